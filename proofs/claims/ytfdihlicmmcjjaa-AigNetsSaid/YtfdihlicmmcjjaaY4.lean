/- The walks of the project's Check and Inputs. -/
import Derived.Test.YtfdihlicmmcjjaaY3
import Derived.Test.YtfdihlicmmcjjaaBd
namespace Go.Proofs.Ytfdihlicmmcjjaa.aig
open Go.RowKit
open Go.Proofs.Ytfdihlicmmcjjaa.mem Go.Proofs.Ytfdihlicmmcjjaa.agf Go.Proofs.Ytfdihlicmmcjjaa.fns
/-- a node's own copy -/
theorem box_at (w : World) (p q : Int) (t : TypeId) : (w.alloc (.cells #[.int .i64 p, .int .i64 q] t)).cell? ⟨w.heap.size, 0, none⟩ = some (.int .i64 p) ∧ (w.alloc (.cells #[.int .i64 p, .int .i64 q] t)).cell? ⟨w.heap.size, 1, none⟩ = some (.int .i64 q) := by
  constructor <;> simp
theorem box_below (w : World) (p q : Int) (t : TypeId) : Below w.heap.size w (w.alloc (.cells #[.int .i64 p, .int .i64 q] t)) := (Below.refl _ _).alloc (Nat.le_refl _) _
set_option maxRecDepth 100000 in
set_option maxHeartbeats 3200000 in
theorem check_any : ChecksOk := by
  intro P v ns w hv hn
  obtain ⟨a, cap, rfl, l1, l2⟩ := hv.form
  unfold maxLen at l2
  obtain ⟨m, hm⟩ : ∃ m, m = ns.length := ⟨_, rfl⟩
  rw [← hm] at l1 hn hv
  rw [← hm]
  have HV := Lib.hid hv
  have HM := Lib.hid hm
  have t0 : decide (1048576 < (m : Int)) = false := by simp; omega
  clear hv hm
  go_enter Try.func8, Try.ntmps8
  go_wp2_with fail
  go_loopw [10] (fun i wr => ∃ k : Nat, k ≤ m ∧ i = .int .i64 k ∧ Hid (∀ j, j < k → okAt ns j = true) ∧ Hid (Below w.heap.size w wr)) (fun i _ => m - (intOf i).toNat)
  case atStart => exact ⟨0, Nat.zero_le _, rfl, Lib.hid (fun j hj => by omega), Lib.hid (Below.refl _ _)⟩
  case round =>
    obtain ⟨k, hk, rfl, HJ, HW⟩ := hrel
    obtain ⟨wo, rfl⟩ : ∃ wo : World, wo = wr := ⟨_, rfl⟩
    by_cases hlt : k < m
    · obtain ⟨b, off, rfl, -, e1, e2⟩ := (HV.out.on (HW.out.mono (Nat.le_refl _))).at_ hlt
      have HO := Lib.hid (okAt_def ns k)
      obtain ⟨p, hp⟩ : ∃ p, p = (ns.getD k (0, 0)).1 := ⟨_, rfl⟩
      obtain ⟨q, hq⟩ : ∃ q, q = (ns.getD k (0, 0)).2 := ⟨_, rfl⟩
      rw [← hp] at e1 HO
      rw [← hq] at e2 HO
      have d1 : (k : Int) < (m : Int) := by omega
      have d2 : 0 ≤ (k : Int) := by omega
      have yes : okAt ns k = true → Hid (∀ j, j < k + 1 → okAt ns j = true) := fun h => Lib.hid (fun j hj => by
        by_cases e : j = k
        · rw [e]; exact h
        · exact HJ.out j (by omega))
      have no : okAt ns k = false → Hid (chk ns = 5) := fun h => Lib.hid (by unfold chk; rw [okB_no (by rw [← HM.out]; exact hlt) h]; rfl)
      have hwz := HW.out.size
      have U1 : Hid (underB p ((k : Int) + 1) = hasB k p) := Lib.hid (under_has p (by omega))
      have U2 : Hid (underB q ((k : Int) + 1) = hasB k q) := Lib.hid (under_has q (by omega))
      clear hp hq
      go_upto_region 6 with fail
      obtain ⟨X, hX⟩ : ∃ X, X = wo.heap.size := ⟨_, rfl⟩
      obtain ⟨W1, hW1⟩ : ∃ W1, W1 = wo.alloc (.cells #[.int .i64 p, .int .i64 q] 54) := ⟨_, rfl⟩
      have x0 : W1.cell? ⟨X, 0, none⟩ = some (.int .i64 p) := by rw [hW1, hX]; exact (box_at _ _ _ _).1
      have x1 : W1.cell? ⟨X, 1, none⟩ = some (.int .i64 q) := by rw [hW1, hX]; exact (box_at _ _ _ _).2
      have hXl : X < W1.heap.size := by rw [hW1, hX]; simp
      have HB1 : Hid (Below w.heap.size w W1) := Lib.hid (by rw [hW1]; exact HW.out.trans ((box_below wo p q _).mono hwz))
      rw [← hX, ← hW1]
      clear hX hW1 e1 e2 hwz
      by_cases g0 : p < 0
      · have HP : Hid (decide (p < 0) = true) := Lib.hid (decide_eq_true g0)
        have HN := yes (by rw [HO.out, decide_eq_true g0]; rfl)
        clear yes no g0
        go_wp2_with fail
        go_at_call 32; refine (isInput_of q HP.out _).mono ?_; rintro e w2 ⟨rfl, hb⟩
        have HB2 : Hid (Below w.heap.size w w2) := Lib.hid (HB1.out.trans (hb.mono HB1.out.size))
        clear hb
        go_wp2_with fail
        go_roundw
        case rel => exact ⟨k + 1, by omega, by go_num, HN, HB2⟩
        case measure => simp [intOf]; omega
      · have HP : Hid (decide (p < 0) = false) := Lib.hid (decide_eq_false g0)
        by_cases g1 : p ≤ 2 * (k : Int) + 1
        · have V1 : Hid (underB p ((k : Int) + 1) = true) := Lib.hid (by rw [U1.out, has_iff]; omega)
          by_cases g2 : 0 ≤ q ∧ q ≤ 2 * (k : Int) + 1
          · have V2 : Hid (underB q ((k : Int) + 1) = true) := Lib.hid (by rw [U2.out, has_iff]; omega)
            have HN := yes (by rw [HO.out, decide_eq_true g1, decide_eq_true g2.1, decide_eq_true g2.2]; simp)
            clear yes no g0 g1 g2
            go_wp2_with fail
            go_at_call 32; refine (isInput_of q HP.out _).mono ?_; rintro e w2 ⟨rfl, hb⟩
            have HB2 : Hid (Below w.heap.size w w2) := Lib.hid (HB1.out.trans (hb.mono HB1.out.size))
            have y0 := (hb.cell (p := ⟨X, 0, none⟩) hXl).trans x0
            have y1 := (hb.cell (p := ⟨X, 1, none⟩) hXl).trans x1
            clear hb x0 x1 hXl
            go_wp2_with fail
            go_at_call_of 33 (Value.int IntKind.i64 p); refine (under_of V1.out _).mono ?_; rintro e w' ⟨rfl, rfl⟩
            go_wp2_with fail
            go_at_call 33; refine (under_of V2.out _).mono ?_; rintro e w' ⟨rfl, rfl⟩
            go_wp2_with fail
            go_roundw
            case rel => exact ⟨k + 1, by omega, by go_num, HN, HB2⟩
            case measure => simp [intOf]; omega
          · have V2 : Hid (underB q ((k : Int) + 1) = false) := Lib.hid (by rw [U2.out, has_no]; omega)
            have HN := no (by
              rw [HO.out, decide_eq_false g0, decide_eq_true g1]
              by_cases g3 : 0 ≤ q
              · rw [decide_eq_true g3, decide_eq_false (fun e => g2 ⟨g3, e⟩)]; rfl
              · rw [decide_eq_false g3]; rfl)
            clear yes no g0 g1 g2
            go_wp2_with fail
            go_at_call 32; refine (isInput_of q HP.out _).mono ?_; rintro e w2 ⟨rfl, hb⟩
            have HB2 : Hid (Below w.heap.size w w2) := Lib.hid (HB1.out.trans (hb.mono HB1.out.size))
            have y0 := (hb.cell (p := ⟨X, 0, none⟩) hXl).trans x0
            have y1 := (hb.cell (p := ⟨X, 1, none⟩) hXl).trans x1
            clear hb x0 x1 hXl
            go_wp2_with fail
            go_at_call_of 33 (Value.int IntKind.i64 p); refine (under_of V1.out _).mono ?_; rintro e w' ⟨rfl, rfl⟩
            go_wp2_with fail
            go_at_call 33; refine (under_of V2.out _).mono ?_; rintro e w' ⟨rfl, rfl⟩
            go_wp2_with fail
            go_ret
            exact ⟨retI HN.out.symm, HB2.out⟩
        · have V1 : Hid (underB p ((k : Int) + 1) = false) := Lib.hid (by rw [U1.out, has_no]; omega)
          have HN := no (by rw [HO.out, decide_eq_false g0, decide_eq_false g1]; rfl)
          clear yes no g0 g1
          go_wp2_with fail
          go_at_call 32; refine (isInput_of q HP.out _).mono ?_; rintro e w2 ⟨rfl, hb⟩
          have HB2 : Hid (Below w.heap.size w w2) := Lib.hid (HB1.out.trans (hb.mono HB1.out.size))
          have y0 := (hb.cell (p := ⟨X, 0, none⟩) hXl).trans x0
          clear hb x0 x1 hXl
          go_wp2_with fail
          go_at_call 33; refine (under_of V1.out _).mono ?_; rintro e w' ⟨rfl, rfl⟩
          go_wp2_with fail
          go_ret
          exact ⟨retI HN.out.symm, HB2.out⟩
    · obtain rfl : m = k := by omega
      have HN : Hid (chk ns = 0) := Lib.hid (by unfold chk; rw [okB_yes (fun i hi => HJ.out i (by rw [HM.out]; exact hi))]; rfl)
      clear hlt hk
      go_wp2_with fail
      go_ret
      exact ⟨retI HN.out.symm, HW.out⟩
set_option maxHeartbeats 1600000 in
theorem inputs_any (P : Nat → Prop) (v : Value) (ns : List (Int × Int)) (w : World) (hv : KNds P w v ns) (hn : ns.length ≤ 1000) :
    Calls Try.prog 11 #[v] w (Told (inpTo ns ns.length) w) := by
  obtain ⟨i0, hi, hz0, hz1, hz2⟩ := info_parts infoI
  obtain ⟨a, cap, rfl, l1, l2⟩ := hv.form
  unfold maxLen at l2
  obtain ⟨m, hm⟩ : ∃ m, m = ns.length := ⟨_, rfl⟩
  rw [← hm] at l1 hn hv ⊢
  have HV := Lib.hid hv
  have HM := Lib.hid hm
  have HR0 : Hid (w.ownsRow w.heap.size 3 1 (.slice none 0 0) 0 []) := Lib.hid (World.ownsRow_nil _ _ _ _)
  clear hv hm
  go_enter Try.func11, Try.ntmps11
  go_wp2_with fail
  go_loopw [3, 8] (fun l i wr => ∃ (k : Nat) (L : List Int) (lv : Value), k ≤ m ∧ i = .int .i64 k ∧ l = lv ∧ L.length ≤ k ∧ Hid (L = inpTo ns k) ∧ Hid (wr.ownsRow w.heap.size 3 1 lv L.length (L.map (Value.int .i64)) ∧ Below w.heap.size w wr)) (fun _ i _ => m - (intOf i).toNat)
  case atStart => exact ⟨0, [], _, Nat.zero_le _, rfl, rfl, Nat.le_refl _, Lib.hid rfl, Lib.hid ⟨HR0.out, Below.refl _ _⟩⟩
  case round =>
    clear HR0
    obtain ⟨k, L, lv, hk, rfl, hlv, hL, HLI, HW⟩ := hrel
    obtain rfl : lv = _ := hlv.symm
    obtain ⟨wo, rfl⟩ : ∃ wo : World, wo = wr := ⟨_, rfl⟩
    by_cases hlt : k < m
    · obtain ⟨b, off, rfl, -, e1, e2⟩ := (HV.out.on HW.out.2).at_ hlt
      have HST := Lib.hid (inpTo_step ns k)
      obtain ⟨p, hp⟩ : ∃ p, p = (ns.getD k (0, 0)).1 := ⟨_, rfl⟩
      obtain ⟨q, hq⟩ : ∃ q, q = (ns.getD k (0, 0)).2 := ⟨_, rfl⟩
      rw [← hp] at e1 HST
      rw [← hq] at e2
      have d1 : (k : Int) < (m : Int) := by omega
      have d2 : 0 ≤ (k : Int) := by omega
      have hwz := HW.out.2.size
      clear hp hq
      go_upto_region 5 with fail
      obtain ⟨W1, hW1⟩ : ∃ W1, W1 = wo.alloc (.cells #[.int .i64 p, .int .i64 q] 54) := ⟨_, rfl⟩
      obtain ⟨X, hX⟩ : ∃ X, X = wo.heap.size := ⟨_, rfl⟩
      have x0 : W1.cell? ⟨X, 0, none⟩ = some (.int .i64 p) := by rw [hW1, hX]; exact (box_at _ _ _ _).1
      have x1 : W1.cell? ⟨X, 1, none⟩ = some (.int .i64 q) := by rw [hW1, hX]; exact (box_at _ _ _ _).2
      have HB1 : Hid (Below wo.heap.size wo W1) := Lib.hid (by rw [hW1]; exact box_below wo p q _)
      rw [← hX, ← hW1]
      clear hX hW1 e1 e2
      by_cases g0 : p < 0
      · have HP : Hid (decide (p < 0) = true) := Lib.hid (decide_eq_true g0)
        have HN : Hid (L ++ [(k : Int) + 1] = inpTo ns (k + 1)) := Lib.hid (by rw [HST.out, if_pos g0, HLI.out])
        clear g0
        go_wp2_with fail
        go_at_call 32; refine (isInput_of q HP.out _).mono ?_; rintro e w2 ⟨rfl, hb⟩
        have HB2 : Hid (Below wo.heap.size wo w2) := Lib.hid (HB1.out.trans (hb.mono HB1.out.size))
        have HBW : Hid (Below w.heap.size w w2) := Lib.hid (HW.out.2.trans (HB2.out.mono hwz))
        obtain ⟨r, hr⟩ : ∃ r, r = (k : Int) + 1 := ⟨_, rfl⟩
        rw [← hr] at HN
        have HR := Lib.hid hr
        have HROW2 := Lib.hid (own_on HW.out.1 HB2.out)
        have HROW := Lib.hid (own_on HROW2.out ((Below.refl _ w2).alloc (Nat.le_refl _) (.cells #[.int .i64 r] 3)))
        have hsz := HBW.out.size
        clear hb hr x0 x1
        go_wp2_with (at_builtin; refine wpList_append_lies _ rfl (.tmp 15) (.tmp 18) 27 rfl w.heap.size 3 i0 (.int .i64 0) 1 8 Try.underlying27 hi hz0 hz1 hz2 rfl (by decide) lv L.length (L.map (Value.int .i64)) rfl (by rw [← HR.out]; exact HROW.out) ⟨w2.heap.size, 0, none⟩ 1 1 [.int .i64 ((k : Int) + 1)] rfl rfl (news1 _ _ _) (one_cell _) (by omega) (by unfold maxLen; omega) (by omega) (by simp; omega) _ rfl ?_)
        intro t2 c2 w3 hown hgrow _ _
        have HE := Lib.hid (row_end HBW.out hsz HROW2.out hown hgrow)
        clear hown hgrow
        go_wp2_with fail
        go_roundw
        case rel => exact ⟨k + 1, L ++ [(k : Int) + 1], .slice (some ⟨t2, 0, none⟩) (L.length + 1) c2, by omega, by go_num, rfl, by simp; omega, by rw [← HR.out]; exact HN, HE⟩
        case measure => simp [intOf]; omega
      · have HP : Hid (decide (p < 0) = false) := Lib.hid (decide_eq_false g0)
        have HN : Hid (L = inpTo ns (k + 1)) := Lib.hid (by rw [HST.out, if_neg g0, List.append_nil, HLI.out])
        clear g0
        go_wp2_with fail
        go_at_call 32; refine (isInput_of q HP.out _).mono ?_; rintro e w2 ⟨rfl, hb⟩
        have HB2 : Hid (Below wo.heap.size wo w2) := Lib.hid (HB1.out.trans (hb.mono HB1.out.size))
        have HE : Hid (w2.ownsRow w.heap.size 3 1 lv L.length (L.map (Value.int .i64)) ∧ Below w.heap.size w w2) := Lib.hid ⟨own_on HW.out.1 HB2.out, HW.out.2.trans (HB2.out.mono hwz)⟩
        clear hb x0 x1
        go_wp2_with fail
        go_roundw
        case rel => exact ⟨k + 1, L, lv, by omega, by go_num, rfl, by omega, HN, HE⟩
        case measure => simp [intOf]; omega
    · obtain rfl : m = k := by omega
      have HE : Hid (Told (inpTo ns m) w (.returned lv) wo) := Lib.hid (by rw [← HLI.out]; exact ⟨lv, rfl, HW.out.1, HW.out.2⟩)
      clear hlt hk
      go_wp2_with fail
      go_ret
      exact HE.out
end Go.Proofs.Ytfdihlicmmcjjaa.aig
