/- The project's lower functions, where there is no store: under, isInput, Check, Levels. (Printed by mkE1.py out of Y1, Y4, Y5.) -/
import Derived.Test.YtoacedadfjoneaaSm
import Derived.Test.YtoacedadfjoneaaV
import Derived.StillTailTactics
import Derived.IntWalk
namespace Go.Proofs.Ytoacedadfjoneaa.aig
open Go.RowKit
open Go.Proofs.Ytoacedadfjoneaa.mem Go.Proofs.Ytoacedadfjoneaa.agf Go.Proofs.Ytoacedadfjoneaa.fns
theorem good_of_has {m : Nat} {l : Int} (hm : m ≤ 1000000) (h : hasB m l = true) : goodB l = true := by
  rw [has_iff] at h; exact good_yes h.1 (by omega)
/-- whether l is a literal of a variable that is less than v -/
def underB (l v : Int) : Bool := goodB l && decide (litVar l < v)
theorem under_has {m : Nat} (l : Int) (hm : m ≤ 1000000) : underB l ((m : Int) + 1) = hasB m l := by
  unfold underB
  cases hg : goodB l with
  | false =>
    rw [Bool.false_and]
    refine (has_no.2 fun e => ?_).symm
    have := good_yes e.1 (by omega)
    rw [this] at hg; cases hg
  | true =>
    obtain ⟨h0, h1⟩ := good_iff.1 hg
    rw [var_yes hg, Bool.true_and, Bool.eq_iff_iff, has_iff, decide_eq_true_iff]
    omega
theorem under_any (l v : Int) (w : World) : Calls Try.prog 37 #[.int .i64 l, .int .i64 v] w fun e w' => e = .returned (.bool (underB l v)) ∧ w = w' := by
  cases hg : goodB l with
  | false =>
    have HR : Hid (underB l v = false) := Lib.hid (by unfold underB; rw [hg]; rfl)
    have HG := Lib.hid hg
    clear hg
    go_enter Try.func37, Try.ntmps37
    go_wp2_with fail
    go_at_call 48; refine (lits.Good_no HG.out _).mono ?_; rintro e w' ⟨rfl, rfl⟩
    go_wp2_with fail
    go_ret
    exact ⟨retB HR.out.symm, rfl⟩
  | true =>
    have HR : Hid (underB l v = decide (litVar l < v)) := Lib.hid (by unfold underB; rw [hg]; rfl)
    have HG := Lib.hid hg
    clear hg
    obtain ⟨b1, b2⟩ := var_bd l
    go_enter Try.func37, Try.ntmps37
    go_wp2_with fail
    go_at_call 48; refine (lits.Good_yes HG.out _).mono ?_; rintro e w' ⟨rfl, rfl⟩
    go_wp2_with fail
    go_at_call 39; refine (lits.Var_any _ _).mono ?_; rintro e w' ⟨rfl, rfl⟩
    go_wp2_with fail
    go_ret
    exact ⟨retB HR.out.symm, rfl⟩
theorem under_of {l v : Int} {r : Bool} (h : underB l v = r) (w : World) : Calls Try.prog 37 #[.int .i64 l, .int .i64 v] w fun e w' => e = .returned (.bool r) ∧ w = w' := by
  have := under_any l v w; rw [h] at this; exact this
/-- whether a node is an input -/
theorem isInput_of {a : Int} (b : Int) {r : Bool} (h : decide (a < 0) = r) (w : World) : Calls Try.prog 36 #[.agg #[.int .i64 a, .int .i64 b]] w fun e w' => e = .returned (.bool r) ∧ Below w.heap.size w w' := by
  have HB : Hid (Below w.heap.size w (w.alloc (.cells #[.int .i64 a, .int .i64 b] 40))) := Lib.hid ((Below.refl _ _).alloc (Nat.le_refl _) _)
  go_enter Try.func36, Try.ntmps36
  go_wp2_with fail
  go_ret
  exact ⟨rfl, HB.out⟩
/-- what a net of the store's is told to be -/
def ChecksOk : Prop := ∀ (P : Nat → Prop) (v : Value) (ns : List (Int × Int)) (w : World), KNds P w v ns → ns.length ≤ 1000000 →
  Calls Try.prog 23 #[v] w fun e w' => e = .returned (.int .i64 (chk ns)) ∧ Below w.heap.size w w'
/-- a node's own copy -/
theorem box_at (w : World) (p q : Int) (t : TypeId) : (w.alloc (.cells #[.int .i64 p, .int .i64 q] t)).cell? ⟨w.heap.size, 0, none⟩ = some (.int .i64 p) ∧ (w.alloc (.cells #[.int .i64 p, .int .i64 q] t)).cell? ⟨w.heap.size, 1, none⟩ = some (.int .i64 q) := by
  constructor <;> simp
theorem box_below (w : World) (p q : Int) (t : TypeId) : Below w.heap.size w (w.alloc (.cells #[.int .i64 p, .int .i64 q] t)) := (Below.refl _ _).alloc (Nat.le_refl _) _
set_option maxRecDepth 100000 in
set_option maxHeartbeats 3200000 in
theorem check_any : ChecksOk := by
  intro P v ns w hv hn
  obtain ⟨a, cap, rfl, l1, l2⟩ := hv.form
  unfold maxLen at l2
  obtain ⟨m, hm⟩ : ∃ m, m = ns.length := ⟨_, rfl⟩
  rw [← hm] at l1 hn hv
  rw [← hm]
  have HV := Lib.hid hv
  have HM := Lib.hid hm
  have t0 : decide (1048576 < (m : Int)) = false := by simp; omega
  clear hv hm
  go_enter Try.func23, Try.ntmps23
  go_wp2_with fail
  go_loopw [10] (fun i wr => ∃ k : Nat, k ≤ m ∧ i = .int .i64 k ∧ Hid (∀ j, j < k → okAt ns j = true) ∧ Hid (Below w.heap.size w wr)) (fun i _ => m - (intOf i).toNat)
  case atStart => exact ⟨0, Nat.zero_le _, rfl, Lib.hid (fun j hj => by omega), Lib.hid (Below.refl _ _)⟩
  case round =>
    obtain ⟨k, hk, rfl, HJ, HW⟩ := hrel
    obtain ⟨wo, rfl⟩ : ∃ wo : World, wo = wr := ⟨_, rfl⟩
    by_cases hlt : k < m
    · obtain ⟨b, off, rfl, -, e1, e2⟩ := (HV.out.on (HW.out.mono (Nat.le_refl _))).at_ hlt
      have HO := Lib.hid (okAt_def ns k)
      obtain ⟨p, hp⟩ : ∃ p, p = (ns.getD k (0, 0)).1 := ⟨_, rfl⟩
      obtain ⟨q, hq⟩ : ∃ q, q = (ns.getD k (0, 0)).2 := ⟨_, rfl⟩
      rw [← hp] at e1 HO
      rw [← hq] at e2 HO
      have d1 : (k : Int) < (m : Int) := by omega
      have d2 : 0 ≤ (k : Int) := by omega
      have yes : okAt ns k = true → Hid (∀ j, j < k + 1 → okAt ns j = true) := fun h => Lib.hid (fun j hj => by
        by_cases e : j = k
        · rw [e]; exact h
        · exact HJ.out j (by omega))
      have no : okAt ns k = false → Hid (chk ns = 5) := fun h => Lib.hid (by unfold chk; rw [okB_no (by rw [← HM.out]; exact hlt) h]; rfl)
      have hwz := HW.out.size
      have U1 : Hid (underB p ((k : Int) + 1) = hasB k p) := Lib.hid (under_has p (by omega))
      have U2 : Hid (underB q ((k : Int) + 1) = hasB k q) := Lib.hid (under_has q (by omega))
      clear hp hq
      go_upto_region 6 with fail
      obtain ⟨X, hX⟩ : ∃ X, X = wo.heap.size := ⟨_, rfl⟩
      obtain ⟨W1, hW1⟩ : ∃ W1, W1 = wo.alloc (.cells #[.int .i64 p, .int .i64 q] 40) := ⟨_, rfl⟩
      have x0 : W1.cell? ⟨X, 0, none⟩ = some (.int .i64 p) := by rw [hW1, hX]; exact (box_at _ _ _ _).1
      have x1 : W1.cell? ⟨X, 1, none⟩ = some (.int .i64 q) := by rw [hW1, hX]; exact (box_at _ _ _ _).2
      have hXl : X < W1.heap.size := by rw [hW1, hX]; simp
      have HB1 : Hid (Below w.heap.size w W1) := Lib.hid (by rw [hW1]; exact HW.out.trans ((box_below wo p q _).mono hwz))
      rw [← hX, ← hW1]
      clear hX hW1 e1 e2 hwz
      by_cases g0 : p < 0
      · have HP : Hid (decide (p < 0) = true) := Lib.hid (decide_eq_true g0)
        have HN := yes (by rw [HO.out, decide_eq_true g0]; rfl)
        clear yes no g0
        go_wp2_with fail
        go_at_call 36; refine (isInput_of q HP.out _).mono ?_; rintro e w2 ⟨rfl, hb⟩
        have HB2 : Hid (Below w.heap.size w w2) := Lib.hid (HB1.out.trans (hb.mono HB1.out.size))
        clear hb
        go_wp2_with fail
        go_roundw
        case rel => exact ⟨k + 1, by omega, by go_num, HN, HB2⟩
        case measure => simp [intOf]; omega
      · have HP : Hid (decide (p < 0) = false) := Lib.hid (decide_eq_false g0)
        by_cases g1 : p ≤ 2 * (k : Int) + 1
        · have V1 : Hid (underB p ((k : Int) + 1) = true) := Lib.hid (by rw [U1.out, has_iff]; omega)
          by_cases g2 : 0 ≤ q ∧ q ≤ 2 * (k : Int) + 1
          · have V2 : Hid (underB q ((k : Int) + 1) = true) := Lib.hid (by rw [U2.out, has_iff]; omega)
            have HN := yes (by rw [HO.out, decide_eq_true g1, decide_eq_true g2.1, decide_eq_true g2.2]; simp)
            clear yes no g0 g1 g2
            go_wp2_with fail
            go_at_call 36; refine (isInput_of q HP.out _).mono ?_; rintro e w2 ⟨rfl, hb⟩
            have HB2 : Hid (Below w.heap.size w w2) := Lib.hid (HB1.out.trans (hb.mono HB1.out.size))
            have y0 := (hb.cell (p := ⟨X, 0, none⟩) hXl).trans x0
            have y1 := (hb.cell (p := ⟨X, 1, none⟩) hXl).trans x1
            clear hb x0 x1 hXl
            go_wp2_with fail
            go_at_call_of 37 (Value.int IntKind.i64 p); refine (under_of V1.out _).mono ?_; rintro e w' ⟨rfl, rfl⟩
            go_wp2_with fail
            go_at_call 37; refine (under_of V2.out _).mono ?_; rintro e w' ⟨rfl, rfl⟩
            go_wp2_with fail
            go_roundw
            case rel => exact ⟨k + 1, by omega, by go_num, HN, HB2⟩
            case measure => simp [intOf]; omega
          · have V2 : Hid (underB q ((k : Int) + 1) = false) := Lib.hid (by rw [U2.out, has_no]; omega)
            have HN := no (by
              rw [HO.out, decide_eq_false g0, decide_eq_true g1]
              by_cases g3 : 0 ≤ q
              · rw [decide_eq_true g3, decide_eq_false (fun e => g2 ⟨g3, e⟩)]; rfl
              · rw [decide_eq_false g3]; rfl)
            clear yes no g0 g1 g2
            go_wp2_with fail
            go_at_call 36; refine (isInput_of q HP.out _).mono ?_; rintro e w2 ⟨rfl, hb⟩
            have HB2 : Hid (Below w.heap.size w w2) := Lib.hid (HB1.out.trans (hb.mono HB1.out.size))
            have y0 := (hb.cell (p := ⟨X, 0, none⟩) hXl).trans x0
            have y1 := (hb.cell (p := ⟨X, 1, none⟩) hXl).trans x1
            clear hb x0 x1 hXl
            go_wp2_with fail
            go_at_call_of 37 (Value.int IntKind.i64 p); refine (under_of V1.out _).mono ?_; rintro e w' ⟨rfl, rfl⟩
            go_wp2_with fail
            go_at_call 37; refine (under_of V2.out _).mono ?_; rintro e w' ⟨rfl, rfl⟩
            go_wp2_with fail
            go_ret
            exact ⟨retI HN.out.symm, HB2.out⟩
        · have V1 : Hid (underB p ((k : Int) + 1) = false) := Lib.hid (by rw [U1.out, has_no]; omega)
          have HN := no (by rw [HO.out, decide_eq_false g0, decide_eq_false g1]; rfl)
          clear yes no g0 g1
          go_wp2_with fail
          go_at_call 36; refine (isInput_of q HP.out _).mono ?_; rintro e w2 ⟨rfl, hb⟩
          have HB2 : Hid (Below w.heap.size w w2) := Lib.hid (HB1.out.trans (hb.mono HB1.out.size))
          have y0 := (hb.cell (p := ⟨X, 0, none⟩) hXl).trans x0
          clear hb x0 x1 hXl
          go_wp2_with fail
          go_at_call 37; refine (under_of V1.out _).mono ?_; rintro e w' ⟨rfl, rfl⟩
          go_wp2_with fail
          go_ret
          exact ⟨retI HN.out.symm, HB2.out⟩
    · obtain rfl : m = k := by omega
      have HN : Hid (chk ns = 0) := Lib.hid (by unfold chk; rw [okB_yes (fun i hi => HJ.out i (by rw [HM.out]; exact hi))]; rfl)
      clear hlt hk
      go_wp2_with fail
      go_ret
      exact ⟨retI HN.out.symm, HW.out⟩
/-- a list, filled up to n by zeros -/
def padI (L : List Int) (n : Nat) : List Int := L ++ List.replicate (n - L.length) 0
theorem pad_len {L : List Int} {n : Nat} (h : L.length ≤ n) : (padI L n).length = n := by unfold padI; simp; omega
theorem pad_set {L : List Int} {n : Nat} {r : Int} (h : L.length < n) : (padI L n).set L.length r = padI (L ++ [r]) n := by
  unfold padI
  rw [List.set_append_right _ _ (Nat.le_refl _), Nat.sub_self, show n - L.length = (n - (L ++ [r]).length) + 1 by simp; omega, List.replicate_succ, List.set_cons_zero]
  simp
theorem pad_zero {L : List Int} {n : Nat} (h : L.length < n) : padI (L ++ [0]) n = padI L n := by
  unfold padI
  rw [show n - L.length = (n - (L ++ [0]).length) + 1 by simp; omega, List.replicate_succ]
  simp
theorem pad_full {L : List Int} {n : Nat} (h : L.length = n) : padI L n = L := by unfold padI; rw [h, Nat.sub_self]; simp
theorem pad_at {L : List Int} {n j : Nat} (h : j < L.length) : (padI L n)[j]? = some (L.getD j 0) := by
  unfold padI
  rw [List.getElem?_append_left h, List.getElem?_eq_getElem h]
  simp [List.getD, h]
theorem made_pad (m : Nat) : (madeCells #[Value.int IntKind.i64 0] (m + 1)).toList = (padI [0] (m + 1)).map (Value.int .i64) := by
  have e : padI [0] (m + 1) = List.replicate (m + 1) 0 := by unfold padI; simp [List.replicate_succ]
  rw [e]
  simp [madeCells, Nat.mod_one, List.map_const']
theorem Var_of {l : Int} (h0 : 0 ≤ l) (h1 : l ≤ 33554433) (w : World) : Calls Try.prog 39 #[.int .i64 l] w fun e w' => e = .returned (.int .i64 (l / 2)) ∧ w' = w := by
  have h := lits.Var_any l w
  rw [var_yes (good_yes h0 h1)] at h
  exact h.mono fun e w' h => ⟨h.1, h.2.symm⟩
theorem good_chk {ns : List (Int × Int)} (h : GoodN ns) : chk ns = 0 := by
  unfold chk
  rw [okB_yes (fun i hi => ?_)]; · rfl
  have := h i hi
  unfold okAt
  by_cases h0 : (ns.getD i (0, 0)).1 < 0
  · rw [decide_eq_true h0]; rfl
  · obtain ⟨g1, g2, g3⟩ := this (by omega)
    rw [decide_eq_true g1, decide_eq_true g2, decide_eq_true g3]; simp
end Go.Proofs.Ytoacedadfjoneaa.aig
