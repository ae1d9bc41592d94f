/- The walk of the project's Words of values that may be open. -/
import Derived.Test.YtoacedadfjoneaaWa
namespace Go.Proofs.Ytoacedadfjoneaa.aig
open Go.RowKit
open Go.Proofs.Ytoacedadfjoneaa.mem Go.Proofs.Ytoacedadfjoneaa.agf Go.Proofs.Ytoacedadfjoneaa.fns
open Go.Proofs.Ytoacedadfjoneaa.ints (Ints ints_of_owned below_drewN)
open Go.Proofs.Ytoacedadfjoneaa.tri (tLit)

/-- words that are filled up with open ones -/
def padW (L : List (Int × Int)) (n : Nat) : List (Int × Int) := L ++ List.replicate (n - L.length) (0, 0)
theorem padW_len {L : List (Int × Int)} {n : Nat} (h : L.length ≤ n) : (padW L n).length = n := by unfold padW; simp; omega
theorem padW_full {L : List (Int × Int)} {n : Nat} (h : L.length = n) : padW L n = L := by unfold padW; rw [h, Nat.sub_self]; simp
theorem padW_zero {L : List (Int × Int)} {n : Nat} (h : L.length < n) : padW (L ++ [(0, 0)]) n = padW L n := by
  unfold padW
  rw [List.length_append, List.length_singleton, List.append_assoc, show n - L.length = (n - (L.length + 1)) + 1 by omega, List.replicate_succ]; rfl
theorem padW_set {L : List (Int × Int)} {n : Nat} {r : Int × Int} (h : L.length < n) : (padW L n).set L.length r = padW (L ++ [r]) n := by
  unfold padW
  rw [show n - L.length = (n - (L ++ [r]).length) + 1 by simp; omega, List.replicate_succ, List.set_append_right _ _ (Nat.le_refl _), Nat.sub_self, List.set_cons_zero, List.append_assoc]; rfl
theorem padW_at {L : List (Int × Int)} {n j : Nat} (h : j < L.length) : (padW L n).getD j (0, 0) = L.getD j (0, 0) := by
  unfold padW; simp [List.getD, List.getElem?_append_left h]
theorem wordCells_set : ∀ (ws : List (Int × Int)) (i : Nat) (r : Int × Int), ((wordCells ws).set (i * 2) (.int .u64 r.1)).set (i * 2 + 1) (.int .u64 r.2) = wordCells (ws.set i r) := by
  intro ws
  induction ws with
  | nil => intro i r; simp [wordCells]
  | cons p ws ih =>
    intro i r
    have e : ∀ q qs, wordCells (q :: qs) = .int .u64 q.1 :: .int .u64 q.2 :: wordCells qs := fun _ _ => rfl
    cases i with
    | zero => simp [e]
    | succ i => rw [List.set_cons_succ, e, e, show (i + 1) * 2 = i * 2 + 1 + 1 by omega, List.set_cons_succ, List.set_cons_succ, List.set_cons_succ, List.set_cons_succ, ih]
theorem madeW (n : Nat) : (madeCells #[Value.int IntKind.u64 0, Value.int IntKind.u64 0] (n * 2)).toList = wordCells (List.replicate n (0, 0)) := by
  have e : wordCells (List.replicate n (0, 0)) = List.replicate (n * 2) (Value.int IntKind.u64 0) := by
    induction n with
    | zero => rfl
    | succ n ih =>
      rw [List.replicate_succ, show (n + 1) * 2 = n * 2 + 1 + 1 by omega, List.replicate_succ, List.replicate_succ, ← ih]; rfl
  rw [e]
  apply List.ext_getElem (by simp [madeCells])
  intro i h1 h2
  have h : i % 2 = 0 ∨ i % 2 = 1 := by omega
  rcases h with h | h <;> simp [madeCells, h]
/-- behind a store of a word -/
theorem row_setW {w : World} {B R q k : Nat} {L : List (Int × Int)} {r : Int × Int} (h : w.ownsRow B 33 2 (.slice (some ⟨R, 0, none⟩) q q) q (wordCells (padW L q))) (hk : L.length = k) (hq : k < q) :
    ((w.setCell ⟨R, k * 2, none⟩ (.int .u64 r.1)).setCell ⟨R, k * 2 + 1, none⟩ (.int .u64 r.2)).ownsRow B 33 2 (.slice (some ⟨R, 0, none⟩) q q) q (wordCells (padW (L ++ [r]) q)) := by
  have h1 := ((h.stored (k * 2) (.int .u64 r.1)).1.stored (k * 2 + 1) (.int .u64 r.2)).1
  rw [wordCells_set, ← hk, padW_set (by omega), hk] at h1
  exact h1
theorem row_wds {w : World} {B R q : Nat} {L : List (Int × Int)} (h : w.ownsRow B 33 2 (.slice (some ⟨R, 0, none⟩) q q) q (wordCells L)) (hl : L.length = q) : Wds w (.slice (some ⟨R, 0, none⟩) q q) L :=
  wds_row (base := B) (by rw [hl]; exact h)
/-- the cells of a word in a row -/
theorem row_cellW {w : World} {B R q k : Nat} {L : List (Int × Int)} (h : w.ownsRow B 33 2 (.slice (some ⟨R, 0, none⟩) q q) q (wordCells (padW L q))) (hl : L.length ≤ q) (hk : k < q) :
    ∃ u1 u2, w.cell? ⟨R, k * 2, none⟩ = some u1 ∧ w.cell? ⟨R, k * 2 + 1, none⟩ = some u2 ∧ w.frozen? ⟨R, k * 2, none⟩ = false ∧ w.frozen? ⟨R, k * 2 + 1, none⟩ = false := by
  have hL : (padW L q).length = q := padW_len hl
  obtain ⟨c1, c2⟩ := wordCells_at (padW L q) k (by omega)
  exact ⟨_, _, by rw [h.cellAt _ (by omega), c1], by rw [h.cellAt _ (by omega), c2], h.frozenAt _, h.frozenAt _⟩
theorem wIn_no {ins : List (Int × Int)} {k : Nat} (h : ¬ k < ins.length) : wIn ins k = (0, 0) := by unfold wIn; rw [if_neg h]
theorem wIn_yes {ins : List (Int × Int)} {k : Nat} (h : k < ins.length) : wIn ins k = wAnd (ins.getD k (0, 0)) (ins.getD k (0, 0)) := by unfold wIn; rw [if_pos h]
theorem wLit_pad {L : List (Int × Int)} {q a : Nat} (h : a / 2 < L.length) : wLit (padW L q) a = wLit L a := by unfold wLit; rw [padW_at h]
theorem wSt_len (ins : List (Int × Int)) (N : Net) : ∀ k, k ≤ N.length → (wSt ins (N.take k)).1.length = k + 1 := by
  intro k
  induction k with
  | zero => intro _; rfl
  | succ k ih =>
    intro hk
    have e := List.getElem?_eq_getElem (show k < N.length by omega)
    rw [wSt_step ins e]
    cases h : N[k] with
    | none => simp [wStep, ih (by omega)]
    | some g => obtain ⟨a, b⟩ := g; simp [wStep, ih (by omega)]
set_option maxRecDepth 100000 in
set_option maxHeartbeats 3200000 in
theorem tWords_any (v u : Value) (ns ws : List (Int × Int)) (w : World) (hv : KNds (fun _ => False) w v ns) (hg : GoodN ns) (hn : ns.length ≤ 1000) (hu : Wds w u ws) (hwl : ws.length ≤ 1000) :
    Calls Try.prog 11 #[v, u] w fun e w' => ∃ u, e = .returned u ∧ Wds w' u (wSt ws (ns.map absN)).1 ∧ Below w.heap.size w w' := by
  obtain ⟨i0, hi, hz0, hz1, hz2⟩ := info_parts infoW
  have HC := Lib.hid (check_any (fun _ => False) v ns w hv (by omega))
  rw [good_chk hg] at HC
  obtain ⟨a, cap, rfl, l1, l2⟩ := hv.form
  unfold maxLen at l2
  obtain ⟨ua, ucap, rfl, l3, l4⟩ := hu.form
  unfold maxLen at l4
  have HIN := Lib.hid (fun j h => wIn_no (ins := ws) (k := j) h)
  have HIY := Lib.hid (fun j h => wIn_yes (ins := ws) (k := j) h)
  obtain ⟨m, hm⟩ : ∃ m, m = ns.length := ⟨_, rfl⟩
  obtain ⟨n, hnn⟩ : ∃ n, n = ws.length := ⟨_, rfl⟩
  rw [← hm] at l1 hn hv HC ⊢
  rw [← hnn] at l3 hwl hu HIN HIY ⊢
  have HV := Lib.hid hv
  have HU := Lib.hid hu
  have HM := Lib.hid hm
  have HG := Lib.hid hg
  have HWL := Lib.hid (wSt_len ws (ns.map absN))
  obtain ⟨q0, hq0⟩ : ∃ q0, q0 = m + 1 := ⟨_, rfl⟩
  have HQ := Lib.hid hq0
  have q1 : (m : Int) + 1 = (q0 : Int) := by omega
  have q2 : q0 ≤ 1001 := by omega
  have q3 : 0 < q0 := by omega
  have q4 : (0 : Int) < (q0 : Int) := by omega
  have HQ1 := Lib.hid q1
  clear hv hu hm hg hq0 q1 hnn
  go_enter Try.func11, Try.ntmps11
  go_wp2_with fail
  go_at_call 23; refine HC.out.mono ?_; rintro e w1 ⟨rfl, hb1⟩
  have HB1 := Lib.hid hb1
  have hz := hb1.size
  clear hb1
  go_wp2_with (refine wpList_make_full _ rfl (.tmp 14) (.tmp 14) 24 rfl w.heap.size 33 i0 (.agg #[.int .u64 0, .int .u64 0]) 2 Try.underlying24 hi hz0 hz1 .i64 .i64 _ _ q0 rfl rfl HQ1.out HQ1.out (by rw [hz2]; omega) (by unfold maxLen; omega) hz ?_)
  intro w2 hown hgrow
  obtain ⟨R, hR⟩ : ∃ R, R = w1.heap.size := ⟨_, rfl⟩
  have HB2 : Hid (Below w.heap.size w w2) := Lib.hid (HB1.out.grown hgrow hz (fun k hk => by cases hk))
  have HRR : Hid (w.heap.size ≤ R) := Lib.hid (by rw [hR]; exact hz)
  have HO2 : Hid (w2.ownsRow w.heap.size 33 2 (.slice (some ⟨R, 0, none⟩) q0 q0) q0 (wordCells (padW [] q0))) := Lib.hid (by
    have h := hown
    rw [show (madeCells #[Value.int IntKind.u64 0, Value.int IntKind.u64 0] (q0 * 2)).toList = wordCells (padW [] q0) from madeW q0, ← hR] at h
    exact h)
  rw [← hR]
  clear hown hgrow hz hR HC
  go_wp2_with fail
  go_at_call 19; refine (tri.All_any 0 _).mono ?_; rintro e w3 ⟨rfl, hb3⟩
  have hrow := own_on HO2.out hb3
  obtain ⟨u1, u2, y1, y2, y3, y4⟩ := row_cellW hrow (Nat.zero_le _) q3
  simp only [Nat.zero_mul, Nat.zero_add] at y1 y2 y3 y4
  have HE3 : Hid (((w3.setCell ⟨R, 0, none⟩ (.int .u64 (allO 0))).setCell ⟨R, 1, none⟩ (.int .u64 (allZ 0))).ownsRow w.heap.size 33 2 (.slice (some ⟨R, 0, none⟩) q0 q0) q0 (wordCells (padW [(allO 0, allZ 0)] q0)) ∧ Below w.heap.size w ((w3.setCell ⟨R, 0, none⟩ (.int .u64 (allO 0))).setCell ⟨R, 1, none⟩ (.int .u64 (allZ 0)))) := Lib.hid (by
    have h := row_setW (r := (allO 0, allZ 0)) hrow rfl q3
    simp only [List.length_nil, Nat.zero_mul, Nat.zero_add, List.nil_append] at h
    exact ⟨h, ((HB2.out.trans (hb3.mono HB2.out.size)).setCell (p := ⟨R, 0, none⟩) HRR.out _).setCell (p := ⟨R, 1, none⟩) HRR.out _⟩)
  obtain ⟨o0, ho0⟩ : ∃ o0, o0 = allO 0 := ⟨_, rfl⟩
  obtain ⟨z0, hz00⟩ : ∃ z0, z0 = allZ 0 := ⟨_, rfl⟩
  have HST0 : Hid (wSt ws ((ns.map absN).take 0) = ([(o0, z0)], 0)) := Lib.hid (by rw [ho0, hz00]; rfl)
  rw [← ho0, ← hz00] at HE3 ⊢
  clear hrow hb3 HO2 HB2 ho0 hz00
  go_wp2_with fail
  obtain ⟨W0, hW0⟩ : ∃ W0, W0 = (w3.setCell ⟨R, 0, none⟩ (.int .u64 o0)).setCell ⟨R, 1, none⟩ (.int .u64 z0) := ⟨_, rfl⟩
  rw [← hW0] at HE3 ⊢
  clear hW0 y1 y2 y3 y4
  go_loopw [6, 21] (fun kv i wr => ∃ (k kk : Nat) (L : List (Int × Int)), k ≤ m ∧ kk ≤ k ∧ kv = .int .i64 kk ∧ i = .int .i64 k ∧ Hid (L.length = k + 1) ∧ Hid (wSt ws ((ns.map absN).take k) = (L, kk)) ∧ Hid (wr.ownsRow w.heap.size 33 2 (.slice (some ⟨R, 0, none⟩) q0 q0) q0 (wordCells (padW L q0)) ∧ Below w.heap.size w wr)) (fun _ i _ => m - (intOf i).toNat)
  case atStart => exact ⟨0, 0, [(o0, z0)], Nat.zero_le _, Nat.le_refl _, rfl, rfl, Lib.hid rfl, HST0, HE3⟩
  case round =>
    clear HE3 HST0
    obtain ⟨k, kk, L, hk, hkk, rfl, rfl, HLL, HLI, HW⟩ := hrel
    obtain ⟨wo, rfl⟩ : ∃ wo : World, wo = wr := ⟨_, rfl⟩
    by_cases hlt : k < m
    · obtain ⟨b, off, rfl, -, e1, e2⟩ := (HV.out.on HW.out.2).at_ hlt
      have HAT := Lib.hid (absN_at (ns := ns) (k := k) (by rw [← HM.out]; exact hlt))
      have hgg := HG.out k (by rw [← HM.out]; exact hlt)
      obtain ⟨pq, hpq⟩ : ∃ pq, pq = ns.getD k (0, 0) := ⟨_, rfl⟩
      rw [← hpq] at e1 e2 HAT hgg
      obtain ⟨p, q⟩ := pq
      simp only at e1 e2 hgg
      have HS2 : Hid (wSt ws ((ns.map absN).take (k + 1)) = wStep ws (L, kk) (absN (p, q))) := Lib.hid (by rw [wSt_step ws HAT.out, HLI.out])
      have hwz := HW.out.2.size
      have HWZ := Lib.hid hwz
      have d1 : (k : Int) < (m : Int) := by omega
      have d2 : 0 ≤ (k : Int) := by omega
      have hLq : L.length < q0 := by have := HQ.out; have := HLL.out; omega
      have HLQ := Lib.hid hLq
      have b7 : (k : Int) + 1 < (q0 : Int) := by have := HQ.out; omega
      have b8 : k + 1 < q0 := by have := HQ.out; omega
      have t1 : 0 ≤ (k : Int) + 1 := by omega
      have t4 : ((k : Int) + 1).toNat = k + 1 := by omega
      have hk1 : k ≤ 1000 := by omega
      clear hpq hLq hwz
      go_upto_region 9 with fail
      obtain ⟨W1, hW1⟩ : ∃ W1, W1 = wo.alloc (.cells #[.int .i64 p, .int .i64 q] 40) := ⟨_, rfl⟩
      obtain ⟨X, hX⟩ : ∃ X, X = wo.heap.size := ⟨_, rfl⟩
      have x0 : W1.cell? ⟨X, 0, none⟩ = some (.int .i64 p) := by rw [hW1, hX]; exact (box_at _ _ _ _).1
      have x1 : W1.cell? ⟨X, 1, none⟩ = some (.int .i64 q) := by rw [hW1, hX]; exact (box_at _ _ _ _).2
      have hXl : X < W1.heap.size := by rw [hW1, hX]; simp
      have hXR : R ≠ X := by have := (HW.out.1.lt R rfl).2; omega
      have HBX : Hid (Below wo.heap.size wo W1) := Lib.hid (by rw [hW1]; exact box_below wo p q _)
      rw [← hX, ← hW1]
      clear hX hW1 e1 e2
      have HGO : Hid (∀ W, Below W1.heap.size W1 W → W.ownsRow w.heap.size 33 2 (.slice (some ⟨R, 0, none⟩) q0 q0) q0 (wordCells (padW L q0)) ∧ Below w.heap.size w W) := Lib.hid (fun W hb => ⟨own_on (own_on HW.out.1 HBX.out) hb, (HW.out.2.trans (HBX.out.mono HWZ.out)).trans (hb.mono (Nat.le_trans HWZ.out HBX.out.size))⟩)
      have HGX : Hid (∀ W, Below W1.heap.size W1 W → W.cell? ⟨X, 0, none⟩ = some (.int .i64 p) ∧ W.cell? ⟨X, 1, none⟩ = some (.int .i64 q)) := Lib.hid (fun W hb => ⟨(hb.cell (p := ⟨X, 0, none⟩) hXl).trans x0, (hb.cell (p := ⟨X, 1, none⟩) hXl).trans x1⟩)
      clear hXl
      by_cases g0 : p < 0
      · have HN : Hid (wSt ws ((ns.map absN).take (k + 1)) = (L ++ [wIn ws kk], kk + 1)) := Lib.hid (by rw [HS2.out]; unfold absN; rw [if_pos g0]; rfl)
        have HP := Lib.hid (decide_eq_true g0)
        clear g0 hgg
        go_wp2_with fail
        go_at_call 24; refine (ternIn_of q HP.out _).mono ?_; rintro e w4 ⟨rfl, hb⟩
        have HB4 := Lib.hid hb
        clear hb x0 x1
        by_cases hkn : kk < n
        · obtain ⟨b', off', rfl, hbl, e3, e4⟩ := (HU.out.on (HGO.out _ HB4.out).2).at_ hkn
          rw [HIY.out kk hkn] at HN
          obtain ⟨r, hr⟩ : ∃ r, r = ws.getD kk (0, 0) := ⟨_, rfl⟩
          rw [← hr] at e3 e4 HN
          have d3 : (kk : Int) < (n : Int) := by omega
          have d4 : 0 ≤ (kk : Int) := by omega
          have hbR : R ≠ b' := fun e => by
            have h1 := (HGO.out _ HB4.out).1
            have h2 := HU.out.at_ hkn
            obtain ⟨b2, off2, e5, h3, -⟩ := h2
            have h4 := HRR.out
            have h5 : b' = b2 := by simpa using congrArg (fun x : Option Addr => x.map Addr.block) e5
            omega
          have HD : Hid (Below W1.heap.size W1 (w4.drewN 1)) := Lib.hid (below_drewN HB4.out 1)
          have HKX : Hid (∀ W, Below w4.heap.size w4 W → W.cell? ⟨b', off' + kk * 2, none⟩ = some (.int .u64 r.1) ∧ W.cell? ⟨b', off' + kk * 2 + 1, none⟩ = some (.int .u64 r.2)) := Lib.hid (fun W hb => ⟨(hb.cell (p := ⟨b', off' + kk * 2, none⟩) hbl).trans e3, (hb.cell (p := ⟨b', off' + kk * 2 + 1, none⟩) hbl).trans e4⟩)
          clear hr hkn hbl
          go_upto_region 12 with fail
          have t2 : IntKind.i64.wrap ((k : Int) + 1) = (k : Int) + 1 := IntWalk.i64_in _ (by omega)
          go_region_held3 (fun w' => w'.cell? ⟨b', off' + kk * 2, none⟩ = some (.int .u64 r.1) ∧ w'.cell? ⟨b', off' + kk * 2 + 1, none⟩ = some (.int .u64 r.2))
            (first | go_keep | (exact HKX.out _ hb7))
            (first | (go_at_call 25; refine (tri.AndWord_any r.1 r.2 r.1 r.2 _).mono ?_; rintro e w7 ⟨rfl, b7⟩; have hb7 := (below_drewN (Below.refl _ w4) 1).trans b7; obtain ⟨u1, u2, y1, y2, y3, y4⟩ := row_cellW (HGO.out _ (HB4.out.trans (hb7.mono HB4.out.size))).1 (Nat.le_of_lt HLQ.out) b8))
          have HE : Hid (((w7.setCell ⟨R, (k + 1) * 2, none⟩ (.int .u64 (wAnd r r).1)).setCell ⟨R, (k + 1) * 2 + 1, none⟩ (.int .u64 (wAnd r r).2)).ownsRow w.heap.size 33 2 (.slice (some ⟨R, 0, none⟩) q0 q0) q0 (wordCells (padW (L ++ [wAnd r r]) q0)) ∧ Below w.heap.size w ((w7.setCell ⟨R, (k + 1) * 2, none⟩ (.int .u64 (wAnd r r).1)).setCell ⟨R, (k + 1) * 2 + 1, none⟩ (.int .u64 (wAnd r r).2))) := Lib.hid (by
            obtain ⟨g1, g2⟩ := HGO.out _ (HB4.out.trans (hb7.mono HB4.out.size))
            exact ⟨row_setW g1 HLL.out b8, (g2.setCell (p := ⟨R, (k + 1) * 2, none⟩) HRR.out _).setCell (p := ⟨R, (k + 1) * 2 + 1, none⟩) HRR.out _⟩)
          clear t2 b7 hb7 y1 y2 y3 y4 e3 e4
          go_wp2_with fail
          go_roundw
          case rel => exact ⟨k + 1, kk + 1, L ++ [wAnd r r], by omega, by omega, by go_num, by go_num, Lib.hid (by rw [List.length_append, List.length_singleton, HLL.out]), HN, HE⟩
          case measure => simp [intOf]; omega
        · have c2 : decide ((kk : Int) < (n : Int)) = false := by simp; omega
          have c3 : decide (kk < n) = false := by simp; omega
          rw [HIN.out kk hkn] at HN
          have HE : Hid (w4.ownsRow w.heap.size 33 2 (.slice (some ⟨R, 0, none⟩) q0 q0) q0 (wordCells (padW (L ++ [(0, 0)]) q0)) ∧ Below w.heap.size w w4) := Lib.hid (by rw [padW_zero HLQ.out]; exact HGO.out _ HB4.out)
          clear hkn
          go_wp2_with fail
          go_roundw
          case rel => exact ⟨k + 1, kk + 1, L ++ [(0, 0)], by omega, by omega, by go_num, by go_num, Lib.hid (by rw [List.length_append, List.length_singleton, HLL.out]), HN, HE⟩
          case measure => simp [intOf]; omega
      · obtain ⟨g1, g2, g3⟩ := hgg (by omega)
        obtain ⟨x, rfl⟩ := Int.eq_ofNat_of_zero_le (show 0 ≤ p by omega)
        obtain ⟨y, rfl⟩ := Int.eq_ofNat_of_zero_le g2
        have hxs : x ≤ 2001 := by omega
        have hys : y ≤ 2001 := by omega
        have hxl : x / 2 < L.length := by rw [HLL.out]; omega
        have hyl : y / 2 < L.length := by rw [HLL.out]; omega
        obtain ⟨px, hpx⟩ : ∃ px, px = wLit L x := ⟨_, rfl⟩
        obtain ⟨py, hpy⟩ : ∃ py, py = wLit L y := ⟨_, rfl⟩
        have HPX : Hid (wLit (padW L q0) x = px) := Lib.hid (by rw [wLit_pad hxl, hpx])
        have HPY : Hid (wLit (padW L q0) y = py) := Lib.hid (by rw [wLit_pad hyl, hpy])
        have hlen := padW_len (Nat.le_of_lt HLQ.out)
        have HLX : Hid (x / 2 < (padW L q0).length ∧ y / 2 < (padW L q0).length) := Lib.hid (by have := HLQ.out; omega)
        have HLE := Lib.hid hlen
        have HP := Lib.hid (decide_eq_false g0)
        have HN : Hid (wSt ws ((ns.map absN).take (k + 1)) = (L ++ [wAnd px py], kk)) := Lib.hid (by
          rw [HS2.out, show absN ((x : Int), (y : Int)) = some (x, y) by unfold absN; rw [if_neg g0]; simp, hpx, hpy]; rfl)
        clear g0 hgg g1 g2 g3 hpx hpy hlen hxl hyl
        go_wp2_with fail
        go_at_call 24; refine (ternIn_of (y : Int) HP.out _).mono ?_; rintro e w4 ⟨rfl, hb⟩
        have HB4 := Lib.hid hb
        clear hb x0 x1
        obtain ⟨x0, x1⟩ := HGX.out _ HB4.out
        have HD : Hid (Below W1.heap.size W1 (w4.drewN 1)) := Lib.hid (below_drewN HB4.out 1)
        have HKX : Hid (∀ W, Below w4.heap.size w4 W → W.cell? ⟨X, 0, none⟩ = some (.int .i64 (x : Int)) ∧ W.cell? ⟨X, 1, none⟩ = some (.int .i64 (y : Int))) := Lib.hid (fun W hb => HGX.out W (HB4.out.trans (hb.mono HB4.out.size)))
        go_upto_region 10 with fail
        have t2 : IntKind.i64.wrap ((k : Int) + 1) = (k : Int) + 1 := IntWalk.i64_in _ (by omega)
        go_region_held3 (fun w' => w'.cell? ⟨X, 0, none⟩ = some (.int .i64 (x : Int)) ∧ w'.cell? ⟨X, 1, none⟩ = some (.int .i64 (y : Int)))
          (first | go_keep | (exact HKX.out _ hb7) | (exact HKX.out _ hb6) | (exact HKX.out _ hb5))
          (first | (go_at_call_of 26 (Value.int IntKind.i64 (x : Int)); refine (word_any HPX.out _ (row_wds (HGO.out _ HD.out).1 HLE.out) HLX.out.1 (by omega)).mono ?_; rintro e w5 ⟨rfl, b5⟩; have hb5 := (below_drewN (Below.refl _ w4) 1).trans b5) | (go_at_call 26; refine (word_any HPY.out _ (row_wds (HGO.out _ (HB4.out.trans (hb5.mono HB4.out.size))).1 HLE.out) HLX.out.2 (by omega)).mono ?_; rintro e w6 ⟨rfl, b6⟩; have hb6 := hb5.trans (b6.mono hb5.size)) | (go_at_call 25; refine (tri.AndWord_any px.1 px.2 py.1 py.2 _).mono ?_; rintro e w7 ⟨rfl, b7⟩; have hb7 := hb6.trans (b7.mono hb6.size); obtain ⟨u1, u2, y1, y2, y3, y4⟩ := row_cellW (HGO.out _ (HB4.out.trans (hb7.mono HB4.out.size))).1 (Nat.le_of_lt HLQ.out) b8))
        have HE : Hid (((w7.setCell ⟨R, (k + 1) * 2, none⟩ (.int .u64 (wAnd px py).1)).setCell ⟨R, (k + 1) * 2 + 1, none⟩ (.int .u64 (wAnd px py).2)).ownsRow w.heap.size 33 2 (.slice (some ⟨R, 0, none⟩) q0 q0) q0 (wordCells (padW (L ++ [wAnd px py]) q0)) ∧ Below w.heap.size w ((w7.setCell ⟨R, (k + 1) * 2, none⟩ (.int .u64 (wAnd px py).1)).setCell ⟨R, (k + 1) * 2 + 1, none⟩ (.int .u64 (wAnd px py).2))) := Lib.hid (by
          obtain ⟨g1, g2⟩ := HGO.out _ (HB4.out.trans (hb7.mono HB4.out.size))
          exact ⟨row_setW g1 HLL.out b8, (g2.setCell (p := ⟨R, (k + 1) * 2, none⟩) HRR.out _).setCell (p := ⟨R, (k + 1) * 2 + 1, none⟩) HRR.out _⟩)
        clear t2 b5 hb5 b6 hb6 b7 hb7 y1 y2 y3 y4 x0 x1
        go_wp2_with fail
        go_roundw
        case rel => exact ⟨k + 1, kk, L ++ [wAnd px py], by omega, by omega, by go_num, by go_num, Lib.hid (by rw [List.length_append, List.length_singleton, HLL.out]), HN, HE⟩
        case measure => simp [intOf]; omega
    · obtain rfl : m = k := by omega
      have HE : Hid (Wds wo (.slice (some ⟨R, 0, none⟩) q0 q0) (wSt ws (ns.map absN)).1 ∧ Below w.heap.size w wo) := Lib.hid (by
        have e := HLI.out
        rw [HM.out, show ns.length = (ns.map absN).length by simp, List.take_length] at e
        have hl : L.length = q0 := by rw [HLL.out, HQ.out]
        have h := HW.out.1
        rw [padW_full hl] at h
        rw [e]
        exact ⟨row_wds h hl, HW.out.2⟩)
      clear hlt hk hkk
      go_wp2_with fail
      go_ret
      exact ⟨_, rfl, HE.out⟩
end Go.Proofs.Ytoacedadfjoneaa.aig
