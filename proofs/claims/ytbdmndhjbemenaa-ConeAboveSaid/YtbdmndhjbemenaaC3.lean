/- The walks of the document's Depth, and of a literal's place. -/
import Derived.Test.YtbdmndhjbemenaaC2
import Derived.Deep.QuietTactic
import Derived.BigQuiet
import Derived.BigRegion
namespace Go.Proofs.Ytbdmndhjbemenaa.aig
open Go.RowKit
open Go.Proofs.Ytbdmndhjbemenaa.mem Go.Proofs.Ytbdmndhjbemenaa.agf Go.Proofs.Ytbdmndhjbemenaa.ints

theorem levels_ok (ns : List (Int × Int)) : ∀ k, k ≤ ns.length → (levels (ns.take k)).length = k + 1 ∧ Lvls (levels (ns.take k)) k := by
  intro k
  induction k with
  | zero => intro _; exact ⟨rfl, fun j => by cases j <;> simp [levels]⟩
  | succ k ih =>
    intro hk
    obtain ⟨h1, h2⟩ := ih (by omega)
    rw [levels_step (by omega)]
    refine ⟨by unfold lvStep; simp [h1], ?_⟩
    unfold lvStep
    refine lvls_more h2 ?_
    split
    · omega
    · have a := h2 ((ns.getD k (0, 0)).1.toNat / 2)
      have b := h2 ((ns.getD k (0, 0)).2.toNat / 2)
      omega
theorem levels_len (ns : List (Int × Int)) : (levels ns).length = ns.length + 1 := by
  have := (levels_ok ns ns.length (Nat.le_refl _)).1
  rwa [List.take_length] at this
theorem levels_bd (ns : List (Int × Int)) : Lvls (levels ns) ns.length := by
  have := (levels_ok ns ns.length (Nat.le_refl _)).2
  rwa [List.take_length] at this
/-- the greatest level, one literal more -/
def dStep (lv : List Int) (m : Nat) (d z : Int) : Int := if 1 < z ∧ z / 2 ≤ (m : Int) ∧ d < lv.getD (z / 2).toNat 0 then lv.getD (z / 2).toNat 0 else d
def depthF (lv : List Int) (m : Nat) (zs : List Int) : Int := zs.foldl (dStep lv m) 0
theorem depth_step (lv : List Int) (m : Nat) {zs : List Int} {j : Nat} (h : j < zs.length) : depthF lv m (zs.take (j + 1)) = dStep lv m (depthF lv m (zs.take j)) (zs.getD j 0) := by
  unfold depthF
  rw [List.take_succ_eq_append_getElem h, List.foldl_append]
  simp [List.getD, h]
theorem depth_bd {lv : List Int} {m : Nat} (h : Lvls lv m) : ∀ (zs : List Int), 0 ≤ depthF lv m zs ∧ depthF lv m zs ≤ (m : Int) := by
  intro zs
  have key : ∀ (zs : List Int) (d : Int), 0 ≤ d ∧ d ≤ (m : Int) → 0 ≤ zs.foldl (dStep lv m) d ∧ zs.foldl (dStep lv m) d ≤ (m : Int) := by
    intro zs
    induction zs with
    | nil => intro d hd; exact hd
    | cons z zs ih =>
      intro d hd
      refine ih _ ?_
      unfold dStep
      split
      · exact h _
      · exact hd
  exact key zs 0 ⟨by omega, by omega⟩
set_option maxRecDepth 100000 in
set_option maxHeartbeats 1600000 in
theorem refDepth_any (v u : Value) (ns : List (Int × Int)) (zs : List Int) (w : World) (hv : KNds (fun _ => False) w v ns) (hg : GoodN ns) (hn : ns.length ≤ 1000) (hu : Ints w u zs) (h64 : ∀ z ∈ zs, In64 z) (hl : zs.length ≤ 1000) :
    Calls Try.prog 15 #[v, u] w fun e w' => e = .returned (.int .i64 (depthF (levels ns) ns.length zs)) ∧ Below w.heap.size w w' := by
  have HC := Lib.hid (refLevels_any (fun _ => False) v ns w hv hg hn)
  have HLB := Lib.hid (levels_bd ns)
  have HLN := Lib.hid (levels_len ns)
  obtain ⟨L, hLL⟩ : ∃ L, L = levels ns := ⟨_, rfl⟩
  rw [← hLL] at HC HLB HLN ⊢
  clear hLL
  obtain ⟨a, cap, rfl, l1, l2⟩ := hv.form
  unfold maxLen at l2
  obtain ⟨m, hm⟩ : ∃ m, m = ns.length := ⟨_, rfl⟩
  rw [← hm] at l1 hn hv HC HLB HLN ⊢
  obtain ⟨ua, ucap, rfl, l3, l4⟩ := Ints.form hu
  unfold maxLen at l4
  obtain ⟨n, hnn⟩ : ∃ n, n = zs.length := ⟨_, rfl⟩
  rw [← hnn] at l3 hl hu
  have HU := Lib.hid hu
  have HNN := Lib.hid hnn
  have H64 := Lib.hid (in64_at h64)
  rw [← hnn]
  clear hv hm hg hu hnn h64
  go_enter Try.func15, Try.ntmps15
  go_wp2_with fail
  go_at_call 31; refine HC.out.mono ?_; rintro e w1 ⟨lv, rfl, r1, b1⟩
  have HB1 := Lib.hid b1
  have HL := Lib.hid (ints_of_owned r1)
  obtain ⟨la, lcap, rfl, l5, l6⟩ := Ints.form HL.out
  unfold maxLen at l6
  obtain ⟨q0, hq0⟩ : ∃ q0, q0 = L.length := ⟨_, rfl⟩
  rw [← hq0] at HL l5 HLN ⊢
  clear r1 b1 hq0 HC
  go_wp2_with fail
  go_loop [5, 7] (fun d i => ∃ (k : Nat) (x : Int), k ≤ n ∧ i = .int .i64 k ∧ d = .int .i64 x ∧ 0 ≤ x ∧ x ≤ (m : Int) ∧ Hid (x = depthF L m (zs.take k))) (fun _ i => n - (intOf i).toNat)
  case atStart => exact ⟨0, 0, Nat.zero_le _, rfl, rfl, by omega, by omega, Lib.hid rfl⟩
  case round =>
    obtain ⟨k, x, hk, rfl, rfl, x0, x1, HX⟩ := hrel
    by_cases hlt : k < n
    · obtain ⟨b, off, rfl, -, e1⟩ := Ints.at_ (Ints.on HU.out HB1.out) hlt
      have HST := Lib.hid (depth_step L m (zs := zs) (j := k) (by rw [← HNN.out]; exact hlt))
      obtain ⟨z0, z9⟩ := H64.out k
      obtain ⟨z, hz⟩ : ∃ z, z = zs.getD k 0 := ⟨_, rfl⟩
      rw [← hz] at e1 HST z0 z9
      have d1 : (k : Int) < (n : Int) := by omega
      have d2 : 0 ≤ (k : Int) := by omega
      clear hz
      have same : ¬ (1 < z ∧ z / 2 ≤ (m : Int) ∧ x < L.getD (z / 2).toNat 0) → Hid (x = depthF L m (zs.take (k + 1))) := fun h => Lib.hid (by rw [HST.out, ← HX.out]; unfold dStep; rw [if_neg h])
      by_cases g0 : 1 < z
      · obtain ⟨q, rfl⟩ := Int.eq_ofNat_of_zero_le (show 0 ≤ z by omega)
        have c1 : decide (1 < (q : Int)) = true := decide_eq_true g0
        by_cases g1 : (q : Int) / 2 ≤ (m : Int)
        · have c2 : decide ((q : Int) / 2 ≤ (m : Int)) = true := decide_eq_true g1
          have hq : q / 2 < q0 := by have := HLN.out; omega
          obtain ⟨lb, loff, rfl, -, e2⟩ := Ints.at_ HL.out hq
          obtain ⟨v1, v2⟩ := HLB.out (q / 2)
          have HST2 : Hid (∀ y, y = L.getD (q / 2) 0 → x < y → y = depthF L m (zs.take (k + 1))) := Lib.hid (fun y hy hxy => by
            rw [HST.out, ← HX.out]; unfold dStep
            rw [show ((q : Int) / 2).toNat = q / 2 by omega, ← hy, if_pos ⟨g0, g1, hxy⟩])
          have same2 : ∀ y, y = L.getD (q / 2) 0 → ¬ x < y → Hid (x = depthF L m (zs.take (k + 1))) := fun y hy hxy => same (fun h => hxy (by
            have h3 := h.2.2
            rw [show ((q : Int) / 2).toNat = q / 2 by omega, ← hy] at h3; exact h3))
          obtain ⟨y, hy⟩ : ∃ y, y = L.getD (q / 2) 0 := ⟨_, rfl⟩
          rw [← hy] at e2 v1 v2
          have b3 : (q : Int) / 2 < (q0 : Int) := by omega
          have b4 : 0 ≤ (q : Int) / 2 := by omega
          by_cases g2 : x < y
          · have c3 : decide (x < y) = true := decide_eq_true g2
            have HN := Lib.hid (HST2.out y hy g2)
            clear same same2 hy g0 g1 g2 hq
            go_wp2_with fail
            go_round
            case rel => exact ⟨k + 1, y, by omega, by go_num, rfl, v1, v2, HN⟩
            case measure => simp [intOf]; omega
          · have c3 : decide (x < y) = false := decide_eq_false g2
            have HN := same2 y hy g2
            clear same same2 hy g0 g1 g2 hq
            go_wp2_with fail
            go_round
            case rel => exact ⟨k + 1, x, by omega, by go_num, rfl, x0, x1, HN⟩
            case measure => simp [intOf]; omega
        · have c2 : decide ((q : Int) / 2 ≤ (m : Int)) = false := decide_eq_false g1
          have HN := same (fun h => g1 h.2.1)
          clear same g0 g1
          go_wp2_with fail
          go_round
          case rel => exact ⟨k + 1, x, by omega, by go_num, rfl, x0, x1, HN⟩
          case measure => simp [intOf]; omega
      · have c1 : decide (1 < z) = false := decide_eq_false g0
        have HN := same (fun h => g0 h.1)
        clear same g0
        go_wp2_with fail
        go_round
        case rel => exact ⟨k + 1, x, by omega, by go_num, rfl, x0, x1, HN⟩
        case measure => simp [intOf]; omega
    · obtain rfl : n = k := by omega
      have HN : Hid (x = depthF L m zs) := Lib.hid (by
        have e := HX.out
        rw [HNN.out, List.take_length] at e; exact e)
      clear hlt hk
      go_wp2_with fail
      go_ret
      exact ⟨mem.retI HN.out, HB1.out⟩
/-- where a literal is -/
theorem refLit_any (v : Value) (L : List Int) (x : Nat) (w : World) (hv : Ints w v L) (hx : x / 2 < L.length) (hl : L.length ≤ 1001) (h0 : 0 ≤ L.getD (x / 2) 0 ∧ L.getD (x / 2) 0 ≤ 4000000 ∧ L.getD (x / 2) 0 % 2 = 0) :
    Calls Try.prog 35 #[v, .int .i64 (x : Int)] w fun e w' => e = .returned (.int .i64 (litAt L x)) ∧ Below w.heap.size w w' := by
  obtain ⟨a, cap, rfl, l1, l2⟩ := Ints.form hv
  unfold maxLen at l2
  obtain ⟨b, off, rfl, -, e1⟩ := Ints.at_ hv hx
  have HL1 : Hid (x % 2 = 1 → litAt L x = nt (L.getD (x / 2) 0)) := Lib.hid (fun e => by unfold litAt; rw [if_pos e])
  have HL2 : Hid (¬ x % 2 = 1 → litAt L x = L.getD (x / 2) 0) := Lib.hid (fun e => by unfold litAt; rw [if_neg e])
  obtain ⟨la, hla⟩ : ∃ la, la = L.getD (x / 2) 0 := ⟨_, rfl⟩
  rw [← hla] at e1 h0 HL1 HL2
  obtain ⟨h1, h2, h3⟩ := h0
  obtain ⟨n, hn⟩ : ∃ n, n = L.length := ⟨_, rfl⟩
  rw [← hn] at hx hl l1 hv ⊢
  have hx2 : x ≤ 2003 := by omega
  have b3 : (x : Int) / 2 < (n : Int) := by omega
  have b4 : 0 ≤ (x : Int) / 2 := by omega
  by_cases ox : x % 2 = 1
  · have c1 : ((x : Int) % 2 == 1) = true := by simp; omega
    have HR : Hid (litAt L x = la + 1) := Lib.hid (by rw [HL1.out ox]; unfold nt; rw [if_neg (by omega), if_neg (by omega)])
    clear hv hla hn ox
    go_enter Try.func35, Try.ntmps35
    go_upto_region 2 with fail
    have t0 : ((x : Int) / 2).toNat = x / 2 := by omega
    have t1 : IntKind.i64.wrap (la + 1) = la + 1 := IntWalk.i64_in _ (by omega)
    go_quiet (fail)
    clear t0 t1
    go_wp2_with fail
    go_ret
    exact ⟨mem.retI HR.out.symm, below_drewN (Below.refl _ _) _⟩
  · have c1 : ((x : Int) % 2 == 1) = false := by simp; omega
    have HR : Hid (litAt L x = la) := Lib.hid (HL2.out ox)
    clear hv hla hn ox
    go_enter Try.func35, Try.ntmps35
    go_wp2_with fail
    go_ret
    exact ⟨mem.retI HR.out.symm, Below.refl _ _⟩
end Go.Proofs.Ytbdmndhjbemenaa.aig
