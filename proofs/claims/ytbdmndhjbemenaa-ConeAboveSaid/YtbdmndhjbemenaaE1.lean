/- The project's lower functions, where there is no store: under, isInput, Check, Levels. (Printed by mkE1.py out of Y1, Y4, Y5.) -/
import Derived.Test.YtbdmndhjbemenaaC5
import Derived.Test.YtbdmndhjbemenaaV
import Derived.StillTailTactics
import Derived.IntWalk
namespace Go.Proofs.Ytbdmndhjbemenaa.aig
open Go.RowKit
open Go.Proofs.Ytbdmndhjbemenaa.mem Go.Proofs.Ytbdmndhjbemenaa.agf Go.Proofs.Ytbdmndhjbemenaa.fns
theorem good_of_has {m : Nat} {l : Int} (hm : m ≤ 1000000) (h : hasB m l = true) : goodB l = true := by
  rw [has_iff] at h; exact good_yes h.1 (by omega)
/-- whether l is a literal of a variable that is less than v -/
def underB (l v : Int) : Bool := goodB l && decide (litVar l < v)
theorem under_has {m : Nat} (l : Int) (hm : m ≤ 1000000) : underB l ((m : Int) + 1) = hasB m l := by
  unfold underB
  cases hg : goodB l with
  | false =>
    rw [Bool.false_and]
    refine (has_no.2 fun e => ?_).symm
    have := good_yes e.1 (by omega)
    rw [this] at hg; cases hg
  | true =>
    obtain ⟨h0, h1⟩ := good_iff.1 hg
    rw [var_yes hg, Bool.true_and, Bool.eq_iff_iff, has_iff, decide_eq_true_iff]
    omega
theorem under_any (l v : Int) (w : World) : Calls Try.prog 39 #[.int .i64 l, .int .i64 v] w fun e w' => e = .returned (.bool (underB l v)) ∧ w = w' := by
  cases hg : goodB l with
  | false =>
    have HR : Hid (underB l v = false) := Lib.hid (by unfold underB; rw [hg]; rfl)
    have HG := Lib.hid hg
    clear hg
    go_enter Try.func39, Try.ntmps39
    go_wp2_with fail
    go_at_call 38; refine (lits.Good_no HG.out _).mono ?_; rintro e w' ⟨rfl, rfl⟩
    go_wp2_with fail
    go_ret
    exact ⟨retB HR.out.symm, rfl⟩
  | true =>
    have HR : Hid (underB l v = decide (litVar l < v)) := Lib.hid (by unfold underB; rw [hg]; rfl)
    have HG := Lib.hid hg
    clear hg
    obtain ⟨b1, b2⟩ := var_bd l
    go_enter Try.func39, Try.ntmps39
    go_wp2_with fail
    go_at_call 38; refine (lits.Good_yes HG.out _).mono ?_; rintro e w' ⟨rfl, rfl⟩
    go_wp2_with fail
    go_at_call 30; refine (lits.Var_any _ _).mono ?_; rintro e w' ⟨rfl, rfl⟩
    go_wp2_with fail
    go_ret
    exact ⟨retB HR.out.symm, rfl⟩
theorem under_of {l v : Int} {r : Bool} (h : underB l v = r) (w : World) : Calls Try.prog 39 #[.int .i64 l, .int .i64 v] w fun e w' => e = .returned (.bool r) ∧ w = w' := by
  have := under_any l v w; rw [h] at this; exact this
/-- whether a node is an input -/
theorem isInput_of {a : Int} (b : Int) {r : Bool} (h : decide (a < 0) = r) (w : World) : Calls Try.prog 37 #[.agg #[.int .i64 a, .int .i64 b]] w fun e w' => e = .returned (.bool r) ∧ Below w.heap.size w w' := by
  have HB : Hid (Below w.heap.size w (w.alloc (.cells #[.int .i64 a, .int .i64 b] 37))) := Lib.hid ((Below.refl _ _).alloc (Nat.le_refl _) _)
  go_enter Try.func37, Try.ntmps37
  go_wp2_with fail
  go_ret
  exact ⟨rfl, HB.out⟩
/-- what a net of the store's is told to be -/
def ChecksOk : Prop := ∀ (P : Nat → Prop) (v : Value) (ns : List (Int × Int)) (w : World), KNds P w v ns → ns.length ≤ 1000000 →
  Calls Try.prog 32 #[v] w fun e w' => e = .returned (.int .i64 (chk ns)) ∧ Below w.heap.size w w'
/-- a node's own copy -/
theorem box_at (w : World) (p q : Int) (t : TypeId) : (w.alloc (.cells #[.int .i64 p, .int .i64 q] t)).cell? ⟨w.heap.size, 0, none⟩ = some (.int .i64 p) ∧ (w.alloc (.cells #[.int .i64 p, .int .i64 q] t)).cell? ⟨w.heap.size, 1, none⟩ = some (.int .i64 q) := by
  constructor <;> simp
theorem box_below (w : World) (p q : Int) (t : TypeId) : Below w.heap.size w (w.alloc (.cells #[.int .i64 p, .int .i64 q] t)) := (Below.refl _ _).alloc (Nat.le_refl _) _
set_option maxRecDepth 100000 in
set_option maxHeartbeats 3200000 in
theorem check_any : ChecksOk := by
  intro P v ns w hv hn
  obtain ⟨a, cap, rfl, l1, l2⟩ := hv.form
  unfold maxLen at l2
  obtain ⟨m, hm⟩ : ∃ m, m = ns.length := ⟨_, rfl⟩
  rw [← hm] at l1 hn hv
  rw [← hm]
  have HV := Lib.hid hv
  have HM := Lib.hid hm
  have t0 : decide (1048576 < (m : Int)) = false := by simp; omega
  clear hv hm
  go_enter Try.func32, Try.ntmps32
  go_wp2_with fail
  go_loopw [10] (fun i wr => ∃ k : Nat, k ≤ m ∧ i = .int .i64 k ∧ Hid (∀ j, j < k → okAt ns j = true) ∧ Hid (Below w.heap.size w wr)) (fun i _ => m - (intOf i).toNat)
  case atStart => exact ⟨0, Nat.zero_le _, rfl, Lib.hid (fun j hj => by omega), Lib.hid (Below.refl _ _)⟩
  case round =>
    obtain ⟨k, hk, rfl, HJ, HW⟩ := hrel
    obtain ⟨wo, rfl⟩ : ∃ wo : World, wo = wr := ⟨_, rfl⟩
    by_cases hlt : k < m
    · obtain ⟨b, off, rfl, -, e1, e2⟩ := (HV.out.on (HW.out.mono (Nat.le_refl _))).at_ hlt
      have HO := Lib.hid (okAt_def ns k)
      obtain ⟨p, hp⟩ : ∃ p, p = (ns.getD k (0, 0)).1 := ⟨_, rfl⟩
      obtain ⟨q, hq⟩ : ∃ q, q = (ns.getD k (0, 0)).2 := ⟨_, rfl⟩
      rw [← hp] at e1 HO
      rw [← hq] at e2 HO
      have d1 : (k : Int) < (m : Int) := by omega
      have d2 : 0 ≤ (k : Int) := by omega
      have yes : okAt ns k = true → Hid (∀ j, j < k + 1 → okAt ns j = true) := fun h => Lib.hid (fun j hj => by
        by_cases e : j = k
        · rw [e]; exact h
        · exact HJ.out j (by omega))
      have no : okAt ns k = false → Hid (chk ns = 5) := fun h => Lib.hid (by unfold chk; rw [okB_no (by rw [← HM.out]; exact hlt) h]; rfl)
      have hwz := HW.out.size
      have U1 : Hid (underB p ((k : Int) + 1) = hasB k p) := Lib.hid (under_has p (by omega))
      have U2 : Hid (underB q ((k : Int) + 1) = hasB k q) := Lib.hid (under_has q (by omega))
      clear hp hq
      go_upto_region 6 with fail
      obtain ⟨X, hX⟩ : ∃ X, X = wo.heap.size := ⟨_, rfl⟩
      obtain ⟨W1, hW1⟩ : ∃ W1, W1 = wo.alloc (.cells #[.int .i64 p, .int .i64 q] 37) := ⟨_, rfl⟩
      have x0 : W1.cell? ⟨X, 0, none⟩ = some (.int .i64 p) := by rw [hW1, hX]; exact (box_at _ _ _ _).1
      have x1 : W1.cell? ⟨X, 1, none⟩ = some (.int .i64 q) := by rw [hW1, hX]; exact (box_at _ _ _ _).2
      have hXl : X < W1.heap.size := by rw [hW1, hX]; simp
      have HB1 : Hid (Below w.heap.size w W1) := Lib.hid (by rw [hW1]; exact HW.out.trans ((box_below wo p q _).mono hwz))
      rw [← hX, ← hW1]
      clear hX hW1 e1 e2 hwz
      by_cases g0 : p < 0
      · have HP : Hid (decide (p < 0) = true) := Lib.hid (decide_eq_true g0)
        have HN := yes (by rw [HO.out, decide_eq_true g0]; rfl)
        clear yes no g0
        go_wp2_with fail
        go_at_call 37; refine (isInput_of q HP.out _).mono ?_; rintro e w2 ⟨rfl, hb⟩
        have HB2 : Hid (Below w.heap.size w w2) := Lib.hid (HB1.out.trans (hb.mono HB1.out.size))
        clear hb
        go_wp2_with fail
        go_roundw
        case rel => exact ⟨k + 1, by omega, by go_num, HN, HB2⟩
        case measure => simp [intOf]; omega
      · have HP : Hid (decide (p < 0) = false) := Lib.hid (decide_eq_false g0)
        by_cases g1 : p ≤ 2 * (k : Int) + 1
        · have V1 : Hid (underB p ((k : Int) + 1) = true) := Lib.hid (by rw [U1.out, has_iff]; omega)
          by_cases g2 : 0 ≤ q ∧ q ≤ 2 * (k : Int) + 1
          · have V2 : Hid (underB q ((k : Int) + 1) = true) := Lib.hid (by rw [U2.out, has_iff]; omega)
            have HN := yes (by rw [HO.out, decide_eq_true g1, decide_eq_true g2.1, decide_eq_true g2.2]; simp)
            clear yes no g0 g1 g2
            go_wp2_with fail
            go_at_call 37; refine (isInput_of q HP.out _).mono ?_; rintro e w2 ⟨rfl, hb⟩
            have HB2 : Hid (Below w.heap.size w w2) := Lib.hid (HB1.out.trans (hb.mono HB1.out.size))
            have y0 := (hb.cell (p := ⟨X, 0, none⟩) hXl).trans x0
            have y1 := (hb.cell (p := ⟨X, 1, none⟩) hXl).trans x1
            clear hb x0 x1 hXl
            go_wp2_with fail
            go_at_call_of 39 (Value.int IntKind.i64 p); refine (under_of V1.out _).mono ?_; rintro e w' ⟨rfl, rfl⟩
            go_wp2_with fail
            go_at_call 39; refine (under_of V2.out _).mono ?_; rintro e w' ⟨rfl, rfl⟩
            go_wp2_with fail
            go_roundw
            case rel => exact ⟨k + 1, by omega, by go_num, HN, HB2⟩
            case measure => simp [intOf]; omega
          · have V2 : Hid (underB q ((k : Int) + 1) = false) := Lib.hid (by rw [U2.out, has_no]; omega)
            have HN := no (by
              rw [HO.out, decide_eq_false g0, decide_eq_true g1]
              by_cases g3 : 0 ≤ q
              · rw [decide_eq_true g3, decide_eq_false (fun e => g2 ⟨g3, e⟩)]; rfl
              · rw [decide_eq_false g3]; rfl)
            clear yes no g0 g1 g2
            go_wp2_with fail
            go_at_call 37; refine (isInput_of q HP.out _).mono ?_; rintro e w2 ⟨rfl, hb⟩
            have HB2 : Hid (Below w.heap.size w w2) := Lib.hid (HB1.out.trans (hb.mono HB1.out.size))
            have y0 := (hb.cell (p := ⟨X, 0, none⟩) hXl).trans x0
            have y1 := (hb.cell (p := ⟨X, 1, none⟩) hXl).trans x1
            clear hb x0 x1 hXl
            go_wp2_with fail
            go_at_call_of 39 (Value.int IntKind.i64 p); refine (under_of V1.out _).mono ?_; rintro e w' ⟨rfl, rfl⟩
            go_wp2_with fail
            go_at_call 39; refine (under_of V2.out _).mono ?_; rintro e w' ⟨rfl, rfl⟩
            go_wp2_with fail
            go_ret
            exact ⟨retI HN.out.symm, HB2.out⟩
        · have V1 : Hid (underB p ((k : Int) + 1) = false) := Lib.hid (by rw [U1.out, has_no]; omega)
          have HN := no (by rw [HO.out, decide_eq_false g0, decide_eq_false g1]; rfl)
          clear yes no g0 g1
          go_wp2_with fail
          go_at_call 37; refine (isInput_of q HP.out _).mono ?_; rintro e w2 ⟨rfl, hb⟩
          have HB2 : Hid (Below w.heap.size w w2) := Lib.hid (HB1.out.trans (hb.mono HB1.out.size))
          have y0 := (hb.cell (p := ⟨X, 0, none⟩) hXl).trans x0
          clear hb x0 x1 hXl
          go_wp2_with fail
          go_at_call 39; refine (under_of V1.out _).mono ?_; rintro e w' ⟨rfl, rfl⟩
          go_wp2_with fail
          go_ret
          exact ⟨retI HN.out.symm, HB2.out⟩
    · obtain rfl : m = k := by omega
      have HN : Hid (chk ns = 0) := Lib.hid (by unfold chk; rw [okB_yes (fun i hi => HJ.out i (by rw [HM.out]; exact hi))]; rfl)
      clear hlt hk
      go_wp2_with fail
      go_ret
      exact ⟨retI HN.out.symm, HW.out⟩
/-- a list, filled up to n by zeros -/
def padI (L : List Int) (n : Nat) : List Int := L ++ List.replicate (n - L.length) 0
theorem pad_len {L : List Int} {n : Nat} (h : L.length ≤ n) : (padI L n).length = n := by unfold padI; simp; omega
theorem pad_set {L : List Int} {n : Nat} {r : Int} (h : L.length < n) : (padI L n).set L.length r = padI (L ++ [r]) n := by
  unfold padI
  rw [List.set_append_right _ _ (Nat.le_refl _), Nat.sub_self, show n - L.length = (n - (L ++ [r]).length) + 1 by simp; omega, List.replicate_succ, List.set_cons_zero]
  simp
theorem pad_zero {L : List Int} {n : Nat} (h : L.length < n) : padI (L ++ [0]) n = padI L n := by
  unfold padI
  rw [show n - L.length = (n - (L ++ [0]).length) + 1 by simp; omega, List.replicate_succ]
  simp
theorem pad_full {L : List Int} {n : Nat} (h : L.length = n) : padI L n = L := by unfold padI; rw [h, Nat.sub_self]; simp
theorem pad_at {L : List Int} {n j : Nat} (h : j < L.length) : (padI L n)[j]? = some (L.getD j 0) := by
  unfold padI
  rw [List.getElem?_append_left h, List.getElem?_eq_getElem h]
  simp [List.getD, h]
theorem made_pad (m : Nat) : (madeCells #[Value.int IntKind.i64 0] (m + 1)).toList = (padI [0] (m + 1)).map (Value.int .i64) := by
  have e : padI [0] (m + 1) = List.replicate (m + 1) 0 := by unfold padI; simp [List.replicate_succ]
  rw [e]
  simp [madeCells, Nat.mod_one, List.map_const']
theorem Var_of {l : Int} (h0 : 0 ≤ l) (h1 : l ≤ 33554433) (w : World) : Calls Try.prog 30 #[.int .i64 l] w fun e w' => e = .returned (.int .i64 (l / 2)) ∧ w' = w := by
  have h := lits.Var_any l w
  rw [var_yes (good_yes h0 h1)] at h
  exact h.mono fun e w' h => ⟨h.1, h.2.symm⟩
theorem good_chk {ns : List (Int × Int)} (h : GoodN ns) : chk ns = 0 := by
  unfold chk
  rw [okB_yes (fun i hi => ?_)]; · rfl
  have := h i hi
  unfold okAt
  by_cases h0 : (ns.getD i (0, 0)).1 < 0
  · rw [decide_eq_true h0]; rfl
  · obtain ⟨g1, g2, g3⟩ := this (by omega)
    rw [decide_eq_true g1, decide_eq_true g2, decide_eq_true g3]; simp
set_option maxRecDepth 100000 in
set_option maxHeartbeats 3200000 in
theorem levels_any (P : Nat → Prop) (v : Value) (ns : List (Int × Int)) (w : World) (hv : KNds P w v ns) (hg : GoodN ns) (hn : ns.length ≤ 1000) (hok : chk ns = 0) :
    Calls Try.prog 29 #[v] w (Told (levels ns) w) := by
  obtain ⟨i0, hi, hz0, hz1, hz2⟩ := info_parts infoI
  have HC := Lib.hid (check_any P v ns w hv (by omega))
  rw [hok] at HC
  obtain ⟨a, cap, rfl, l1, l2⟩ := hv.form
  unfold maxLen at l2
  obtain ⟨m, hm⟩ : ∃ m, m = ns.length := ⟨_, rfl⟩
  rw [← hm] at l1 hn hv HC ⊢
  have HV := Lib.hid hv
  have HM := Lib.hid hm
  have HG := Lib.hid hg
  obtain ⟨q0, hq0⟩ : ∃ q0, q0 = m + 1 := ⟨_, rfl⟩
  have HQ := Lib.hid hq0
  have q1 : (m : Int) + 1 = (q0 : Int) := by omega
  have q2 : q0 ≤ 1001 := by omega
  have HQ1 := Lib.hid q1
  clear hv hm hg hok hq0 q1
  go_enter Try.func29, Try.ntmps29
  go_wp2_with fail
  go_at_call 32; refine HC.out.mono ?_; rintro e w1 ⟨rfl, hb1⟩
  have HB1 := Lib.hid hb1
  have hz := hb1.size
  clear hb1
  go_wp2_with (refine wpList_make_full _ rfl (.tmp 11) (.tmp 11) 23 rfl w.heap.size 3 i0 (.int .i64 0) 1 Try.underlying23 hi hz0 hz1 .i64 .i64 _ _ q0 rfl rfl HQ1.out HQ1.out (by rw [hz2]; omega) (by unfold maxLen; omega) hz ?_)
  intro w2 hown hgrow
  obtain ⟨R, hR⟩ : ∃ R, R = w1.heap.size := ⟨_, rfl⟩
  have HB2 : Hid (Below w.heap.size w w2) := Lib.hid (HB1.out.grown hgrow hz (fun k hk => by cases hk))
  have HRR : Hid (w.heap.size ≤ R) := Lib.hid (by rw [hR]; exact hz)
  have HO2 : Hid (w2.ownsRow w.heap.size 3 1 (.slice (some ⟨R, 0, none⟩) q0 q0) q0 ((padI [0] q0).map (Value.int .i64))) := Lib.hid (by
    have h := hown
    rw [show (madeCells #[Value.int IntKind.i64 0] q0).toList = (padI [0] q0).map (Value.int .i64) by rw [HQ.out]; exact made_pad m, ← hR] at h
    exact h)
  rw [← hR]
  clear hown hgrow hz hR
  go_wp2_with fail
  go_loopw [15] (fun i wr => ∃ (k : Nat) (L : List Int), k ≤ m ∧ i = .int .i64 k ∧ L.length = k + 1 ∧ Hid (L = levels (ns.take k)) ∧ Hid (Lvls L k) ∧ Hid (wr.ownsRow w.heap.size 3 1 (.slice (some ⟨R, 0, none⟩) q0 q0) q0 ((padI L q0).map (Value.int .i64)) ∧ Below w.heap.size w wr)) (fun i _ => m - (intOf i).toNat)
  case atStart => exact ⟨0, [0], Nat.zero_le _, rfl, rfl, Lib.hid rfl, Lib.hid (fun j => by cases j <;> simp), Lib.hid ⟨HO2.out, HB2.out⟩⟩
  case round =>
    clear HO2 HB2
    obtain ⟨k, L, hk, rfl, hL, HLI, HLV, HW⟩ := hrel
    obtain ⟨wo, rfl⟩ : ∃ wo : World, wo = wr := ⟨_, rfl⟩
    by_cases hlt : k < m
    · obtain ⟨b, off, rfl, -, e1, e2⟩ := (HV.out.on HW.out.2).at_ hlt
      have HST := Lib.hid (levels_step (ns := ns) (k := k) (by rw [← HM.out]; exact hlt))
      have hgg := HG.out k (by rw [← HM.out]; exact hlt)
      obtain ⟨pq, hpq⟩ : ∃ pq, pq = ns.getD k (0, 0) := ⟨_, rfl⟩
      rw [← hpq] at e1 e2 HST hgg
      obtain ⟨p, q⟩ := pq
      simp only at e1 e2 hgg
      have hwz := HW.out.2.size
      have d1 : (k : Int) < (m : Int) := by omega
      have d2 : 0 ≤ (k : Int) := by omega
      have HLL := Lib.hid hL
      have hLq : L.length < q0 := by have := HQ.out; omega
      have HLQ := Lib.hid hLq
      clear hpq
      go_upto_region 7 with fail
      obtain ⟨W1, hW1⟩ : ∃ W1, W1 = wo.alloc (.cells #[.int .i64 p, .int .i64 q] 37) := ⟨_, rfl⟩
      obtain ⟨X, hX⟩ : ∃ X, X = wo.heap.size := ⟨_, rfl⟩
      have x0 : W1.cell? ⟨X, 0, none⟩ = some (.int .i64 p) := by rw [hW1, hX]; exact (box_at _ _ _ _).1
      have x1 : W1.cell? ⟨X, 1, none⟩ = some (.int .i64 q) := by rw [hW1, hX]; exact (box_at _ _ _ _).2
      have hXl : X < W1.heap.size := by rw [hW1, hX]; simp
      have HBX : Hid (Below wo.heap.size wo W1) := Lib.hid (by rw [hW1]; exact box_below wo p q _)
      rw [← hX, ← hW1]
      clear hX hW1 e1 e2
      by_cases g0 : p < 0
      · have HP : Hid (decide (p < 0) = true) := Lib.hid (decide_eq_true g0)
        have HN : Hid (L ++ [0] = levels (ns.take (k + 1))) := Lib.hid (by rw [HST.out, ← HLI.out]; unfold lvStep; rw [if_pos g0])
        have HLV2 := Lib.hid (lvls_more HLV.out (r := 0) (by omega))
        clear g0 hgg hL hXl hLq
        go_wp2_with fail
        go_at_call 37; refine (isInput_of q HP.out _).mono ?_; rintro e w3 ⟨rfl, hb⟩
        have HB3 : Hid (Below wo.heap.size wo w3) := Lib.hid (HBX.out.trans (hb.mono HBX.out.size))
        have HE : Hid (w3.ownsRow w.heap.size 3 1 (.slice (some ⟨R, 0, none⟩) q0 q0) q0 ((padI (L ++ [0]) q0).map (Value.int .i64)) ∧ Below w.heap.size w w3) := Lib.hid ⟨by rw [pad_zero HLQ.out]; exact own_on HW.out.1 HB3.out, HW.out.2.trans (HB3.out.mono hwz)⟩
        clear hb
        go_wp2_with fail
        go_roundw
        case rel => exact ⟨k + 1, L ++ [0], by omega, by go_num, by rw [List.length_append, List.length_singleton, HLL.out], HN, HLV2, HE⟩
        case measure => simp [intOf]; omega
      · have HP : Hid (decide (p < 0) = false) := Lib.hid (decide_eq_false g0)
        obtain ⟨g1, g2, g3⟩ := hgg (by omega)
        obtain ⟨x, rfl⟩ := Int.eq_ofNat_of_zero_le (show 0 ≤ p by omega)
        obtain ⟨y, rfl⟩ := Int.eq_ofNat_of_zero_le g2
        have hx : x ≤ 2 * k + 1 := by omega
        have hy : y ≤ 2 * k + 1 := by omega
        have v1 := HLV.out (x / 2)
        have v2 := HLV.out (y / 2)
        have HN0 : Hid (∀ r, r = max (L.getD (x / 2) 0) (L.getD (y / 2) 0) + 1 → L ++ [r] = levels (ns.take (k + 1))) := Lib.hid (by
          rintro r rfl
          rw [HST.out, ← HLI.out]; unfold lvStep; rw [if_neg g0]; rfl)
        clear g0 hgg g1 g2 g3 hL
        go_wp2_with fail
        go_at_call 37; refine (isInput_of (y : Int) HP.out _).mono ?_; rintro e w3 ⟨rfl, hb⟩
        have HB3 : Hid (Below wo.heap.size wo w3) := Lib.hid (HBX.out.trans (hb.mono HBX.out.size))
        have y0 := (hb.cell (p := ⟨X, 0, none⟩) hXl).trans x0
        have y1 := (hb.cell (p := ⟨X, 1, none⟩) hXl).trans x1
        have hrow := own_on HW.out.1 HB3.out
        have z1 := hrow.cellAt (x / 2) (by have := HLL.out; omega)
        have z2 := hrow.cellAt (y / 2) (by have := HLL.out; omega)
        have f3 := hrow.frozenAt (k + 1)
        have z3 := hrow.cellAt (k + 1) (by have := HLL.out; omega)
        rw [List.getElem?_map, pad_at (by have := HLL.out; omega)] at z1 z2
        obtain ⟨u3, hu3⟩ : ∃ u, ((padI L q0).map (Value.int .i64))[k + 1]? = some u := ⟨_, List.getElem?_eq_getElem (by rw [List.length_map, pad_len (by omega)]; have := HLL.out; omega)⟩
        rw [hu3] at z3
        simp only [Option.map_some] at z1 z2
        obtain ⟨la, hla⟩ : ∃ la, la = L.getD (x / 2) 0 := ⟨_, rfl⟩
        obtain ⟨lb, hlb⟩ : ∃ lb, lb = L.getD (y / 2) 0 := ⟨_, rfl⟩
        rw [← hla] at z1 v1 HN0
        rw [← hlb] at z2 v2 HN0
        have b3 : (x : Int) / 2 < (q0 : Int) := by have := HLL.out; omega
        have b4 : 0 ≤ (x : Int) / 2 := by omega
        have b5 : (y : Int) / 2 < (q0 : Int) := by have := HLL.out; omega
        have b6 : 0 ≤ (y : Int) / 2 := by omega
        have b7 : (k : Int) + 1 < (q0 : Int) := by have := HLL.out; omega
        have hk1 : k ≤ 1000 := by omega
        have HRW := Lib.hid hrow
        have HU3 := Lib.hid hu3
        have hx2 : (x : Int) ≤ 2001 := by omega
        have hy2 : (y : Int) ≤ 2001 := by omega
        obtain ⟨v3, v4⟩ := v1
        obtain ⟨v5, v6⟩ := v2
        clear hb x0 x1 hXl hla hlb hrow hu3 hLq hx hy
        by_cases hab : la < lb
        · have HN := Lib.hid (HN0.out (lb + 1) (by omega))
          have HLV2 := Lib.hid (lvls_more HLV.out (r := lb + 1) (by omega))
          have HST2 : Hid ((w3.drew.setCell ⟨R, k + 1, none⟩ (.int .i64 (1 + lb))).ownsRow w.heap.size 3 1 (.slice (some ⟨R, 0, none⟩) q0 q0) q0 ((padI (L ++ [lb + 1]) q0).map (Value.int .i64)) ∧ Below w.heap.size w (w3.drew.setCell ⟨R, k + 1, none⟩ (.int .i64 (1 + lb)))) := Lib.hid (by
            have hd := own_on HRW.out ((Below.refl _ w3).drew)
            have h := (hd.stored (k + 1) (.int .i64 (1 + lb))).1
            rw [← List.map_set, show k + 1 = L.length from HLL.out.symm, pad_set HLQ.out, show (1 : Int) + lb = lb + 1 by omega] at h
            rw [show k + 1 = L.length from HLL.out.symm, show (1 : Int) + lb = lb + 1 by omega]
            exact ⟨h, ((HW.out.2.trans (HB3.out.mono hwz)).drew).setCell (p := ⟨R, L.length, none⟩) HRR.out _⟩)
          go_upto_region 8 with fail
          refine wp_region_still_tail 18 (by kernel_rfl) (by kernel_rfl) ?_
          simp only [List.take_succ_cons, List.take_zero, List.drop_succ_cons, List.drop_zero]
          generalize hW : ({ heap := w3.heap, tape := w3.tape, drawn := w3.drawn + 1, os := w3.os, output := w3.output } : World) = W
          have HWD : Hid (w3.drew = W) := Lib.hid hW
          replace y0 : W.cell? ⟨X, 0, none⟩ = some (.int .i64 (x : Int)) := by rw [← hW]; exact y0
          replace y1 : W.cell? ⟨X, 1, none⟩ = some (.int .i64 (y : Int)) := by rw [← hW]; exact y1
          replace z1 : W.cell? ⟨R, x / 2, none⟩ = some (.int .i64 la) := by rw [← hW]; exact z1
          replace z2 : W.cell? ⟨R, y / 2, none⟩ = some (.int .i64 lb) := by rw [← hW]; exact z2
          replace z3 : W.cell? ⟨R, k + 1, none⟩ = some u3 := by rw [← hW]; exact z3
          replace f3 : W.frozen? ⟨R, k + 1, none⟩ = false := by rw [← hW]; exact f3
          have HVX := Lib.hid (Var_of (l := (x : Int)) (by omega) (by omega) W)
          have HVY := Lib.hid (Var_of (l := (y : Int)) (by omega) (by omega) W)
          have c9 : decide (la < lb) = true := by simp; omega
          have t1 : 0 ≤ (k : Int) + 1 := by omega
          have t2 : IntKind.i64.wrap ((k : Int) + 1) = (k : Int) + 1 := IntWalk.i64_in _ (by omega)
          have t3 : IntKind.i64.wrap (1 + lb) = 1 + lb := IntWalk.i64_in _ (by omega)
          have t4 : ((k : Int) + 1).toNat = k + 1 := by omega
          have t5 : ((x : Int) / 2).toNat = x / 2 := by omega
          have t6 : ((y : Int) / 2).toNat = y / 2 := by omega
          clear hW
          repeat (first | still_step | (still_call HVX.out) | (still_call HVY.out))
          refine wpStill_nil ?_
          clear t2 t3 t4 t5 t6
          go_wp2_with fail
          rw [← HWD.out]
          go_roundw
          case rel => exact ⟨k + 1, L ++ [lb + 1], by omega, by go_num, by rw [List.length_append, List.length_singleton, HLL.out], HN, HLV2, HST2⟩
          case measure => simp [intOf]; omega
        · have HN := Lib.hid (HN0.out (la + 1) (by omega))
          have HLV2 := Lib.hid (lvls_more HLV.out (r := la + 1) (by omega))
          have HST2 : Hid ((w3.drew.setCell ⟨R, k + 1, none⟩ (.int .i64 (1 + la))).ownsRow w.heap.size 3 1 (.slice (some ⟨R, 0, none⟩) q0 q0) q0 ((padI (L ++ [la + 1]) q0).map (Value.int .i64)) ∧ Below w.heap.size w (w3.drew.setCell ⟨R, k + 1, none⟩ (.int .i64 (1 + la)))) := Lib.hid (by
            have hd := own_on HRW.out ((Below.refl _ w3).drew)
            have h := (hd.stored (k + 1) (.int .i64 (1 + la))).1
            rw [← List.map_set, show k + 1 = L.length from HLL.out.symm, pad_set HLQ.out, show (1 : Int) + la = la + 1 by omega] at h
            rw [show k + 1 = L.length from HLL.out.symm, show (1 : Int) + la = la + 1 by omega]
            exact ⟨h, ((HW.out.2.trans (HB3.out.mono hwz)).drew).setCell (p := ⟨R, L.length, none⟩) HRR.out _⟩)
          go_upto_region 8 with fail
          refine wp_region_still_tail 18 (by kernel_rfl) (by kernel_rfl) ?_
          simp only [List.take_succ_cons, List.take_zero, List.drop_succ_cons, List.drop_zero]
          generalize hW : ({ heap := w3.heap, tape := w3.tape, drawn := w3.drawn + 1, os := w3.os, output := w3.output } : World) = W
          have HWD : Hid (w3.drew = W) := Lib.hid hW
          replace y0 : W.cell? ⟨X, 0, none⟩ = some (.int .i64 (x : Int)) := by rw [← hW]; exact y0
          replace y1 : W.cell? ⟨X, 1, none⟩ = some (.int .i64 (y : Int)) := by rw [← hW]; exact y1
          replace z1 : W.cell? ⟨R, x / 2, none⟩ = some (.int .i64 la) := by rw [← hW]; exact z1
          replace z2 : W.cell? ⟨R, y / 2, none⟩ = some (.int .i64 lb) := by rw [← hW]; exact z2
          replace z3 : W.cell? ⟨R, k + 1, none⟩ = some u3 := by rw [← hW]; exact z3
          replace f3 : W.frozen? ⟨R, k + 1, none⟩ = false := by rw [← hW]; exact f3
          have HVX := Lib.hid (Var_of (l := (x : Int)) (by omega) (by omega) W)
          have HVY := Lib.hid (Var_of (l := (y : Int)) (by omega) (by omega) W)
          have c9 : decide (la < lb) = false := by simp; omega
          have t1 : 0 ≤ (k : Int) + 1 := by omega
          have t2 : IntKind.i64.wrap ((k : Int) + 1) = (k : Int) + 1 := IntWalk.i64_in _ (by omega)
          have t3 : IntKind.i64.wrap (1 + la) = 1 + la := IntWalk.i64_in _ (by omega)
          have t4 : ((k : Int) + 1).toNat = k + 1 := by omega
          have t5 : ((x : Int) / 2).toNat = x / 2 := by omega
          have t6 : ((y : Int) / 2).toNat = y / 2 := by omega
          clear hW
          repeat (first | still_step | (still_call HVX.out) | (still_call HVY.out))
          refine wpStill_nil ?_
          clear t2 t3 t4 t5 t6
          go_wp2_with fail
          rw [← HWD.out]
          go_roundw
          case rel => exact ⟨k + 1, L ++ [la + 1], by omega, by go_num, by rw [List.length_append, List.length_singleton, HLL.out], HN, HLV2, HST2⟩
          case measure => simp [intOf]; omega
    · obtain rfl : m = k := by omega
      have HE : Hid (Told (levels ns) w (.returned (.slice (some ⟨R, 0, none⟩) q0 q0)) wo) := Lib.hid (by
        have e := HLI.out
        rw [HM.out, List.take_length] at e
        have hq : L.length = q0 := by rw [hL]; exact HQ.out.symm
        have h := HW.out.1
        rw [pad_full hq, ← hq] at h
        rw [← e, ← hq]
        exact ⟨_, rfl, h, HW.out.2⟩)
      clear hlt hk hL
      go_wp2_with fail
      go_ret
      exact HE.out
end Go.Proofs.Ytbdmndhjbemenaa.aig
