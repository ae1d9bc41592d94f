/- The walk of the document's Lane. -/
import Derived.Test.YtemolhmkhjfehaaD1
namespace Go.Proofs.Ytemolhmkhjfehaa.aig
open Go.RowKit
open Go.Proofs.Ytemolhmkhjfehaa.mem Go.Proofs.Ytemolhmkhjfehaa.agf
open Go.Proofs.Ytemolhmkhjfehaa.nats (Rd U rd_len rd_cell rd_form Rd.on rd_of_owned)

theorem lane_step {zs : List Nat} {i k : Nat} (h : k < zs.length) : ((zs.take (k + 1)).map fun z => z.testBit i) = ((zs.take k).map fun z => z.testBit i) ++ [(zs.getD k 0).testBit i] := by
  rw [List.take_succ_eq_append_getElem h, List.map_append]
  simp [List.getD, h]
theorem rd_lt {zs : List Nat} (h : ∀ b ∈ zs, b < 18446744073709551616) (k : Nat) : zs.getD k 0 < 18446744073709551616 := by
  by_cases hk : k < zs.length
  · have e : zs.getD k 0 = zs[k] := by simp [List.getD, hk]
    rw [e]; exact h _ (List.getElem_mem hk)
  · simp only [List.getD]; rw [List.getElem?_eq_none (by omega)]; show 0 < _; omega
set_option maxHeartbeats 1600000 in
theorem refLane_any (v : Value) (zs : List Nat) (i : Int) (w : World) (hv : Rd U w v zs) (hz : ∀ b ∈ zs, b < 18446744073709551616) (hn : zs.length ≤ 1000) :
    Calls Try.prog 15 #[v, .int .i64 i] w (ToldB (laneZ zs i) w) := by
  obtain ⟨i0, hi, hz0, hz1, hz2⟩ := info_parts infoB
  have HV := Lib.hid hv
  have HZ := Lib.hid (rd_lt hz)
  obtain ⟨a, cap, rfl⟩ := rd_form hv
  obtain ⟨-, l1, l2⟩ := rd_len hv
  unfold maxLen at l2
  obtain ⟨m, hm⟩ : ∃ m, m = zs.length := ⟨_, rfl⟩
  rw [← hm] at l1 hn HV ⊢
  have HM := Lib.hid hm
  have HB0 : Hid (Below w.heap.size w (w.alloc (.cells #[] 4))) := Lib.hid ((Below.refl _ _).alloc (Nat.le_refl _) _)
  have HR0 : Hid ((w.alloc (.cells #[] 4)).ownsRow w.heap.size 4 1 (.slice (some ⟨w.heap.size, 0, none⟩) 0 0) 0 []) := Lib.hid (World.ownsRow_made _ #[] 0 (Nat.le_refl _) (by unfold maxLen; omega) rfl)
  clear hv hz hm
  by_cases hin : 0 ≤ i ∧ i < 64
  · obtain ⟨j, rfl⟩ := Int.eq_ofNat_of_zero_le hin.1
    have hj : j < 64 := by omega
    have HL := Lib.hid (lane_yes zs hj)
    clear hin
    go_enter Try.func15, Try.ntmps15
    go_wp2_with fail
    go_loopw [5, 6] (fun l i wr => ∃ (k : Nat) (L : List Bool) (lv : Value), k ≤ m ∧ i = .int .i64 k ∧ l = lv ∧ L.length = k ∧ Hid (L = (zs.take k).map fun z => z.testBit j) ∧ Hid (wr.ownsRow w.heap.size 4 1 lv L.length (L.map Value.bool) ∧ Below w.heap.size w wr)) (fun _ i _ => m - (intOf i).toNat)
    case atStart => exact ⟨0, [], _, Nat.zero_le _, rfl, rfl, rfl, Lib.hid rfl, Lib.hid ⟨HR0.out, HB0.out⟩⟩
    case round =>
      clear HB0 HR0
      obtain ⟨k, L, lv, hk, rfl, hlv, hL, HLI, HW⟩ := hrel
      obtain rfl : lv = _ := hlv.symm
      obtain ⟨wo, rfl⟩ : ∃ wo : World, wo = wr := ⟨_, rfl⟩
      by_cases hlt : k < m
      · obtain ⟨b, off, rfl, -, e1⟩ := rd_cell (HV.out.on HW.out.2) hlt
        have HST := Lib.hid (lane_step (zs := zs) (i := j) (k := k) (by rw [← HM.out]; exact hlt))
        have hx := HZ.out k
        obtain ⟨x, hx'⟩ : ∃ x, x = zs.getD k 0 := ⟨_, rfl⟩
        rw [← hx'] at e1 HST hx
        have HC := Lib.hid (refBit9_any x j wo hx hj)
        have d1 : (k : Int) < (m : Int) := by omega
        have d2 : 0 ≤ (k : Int) := by omega
        have hsz := HW.out.2.size
        have HLL := Lib.hid hL
        have hLb : L.length ≤ 1000 := by omega
        obtain ⟨y, hy⟩ : ∃ y, y = x.testBit j := ⟨_, rfl⟩
        rw [← hy] at HC HST
        have HN : Hid (L ++ [y] = (zs.take (k + 1)).map fun z => z.testBit j) := Lib.hid (by rw [HST.out, HLI.out])
        have HROW := Lib.hid (own_on HW.out.1 ((Below.refl _ wo).alloc (Nat.le_refl _) (.cells #[.bool y] 4)))
        clear hx' hx hy hL
        go_wp2_with fail
        go_at_call 16; refine HC.out.mono ?_; rintro e w' ⟨rfl, rfl⟩
        go_wp2_with (at_builtin; refine wpList_append_lies _ rfl (.tmp 22) (.tmp 29) 23 rfl w.heap.size 4 i0 (.bool false) 1 1 Try.underlying23 hi hz0 hz1 hz2 rfl (by decide) lv L.length (L.map Value.bool) rfl HROW.out ⟨wo.heap.size, 0, none⟩ 1 1 [.bool y] rfl rfl (news1 _ _ _) (one_bool _) (by omega) (by unfold maxLen; omega) (by omega) (by simp; omega) _ rfl ?_)
        intro t2 c2 w3 hown hgrow _ _
        have HE := Lib.hid (brow_end HW.out.2 hsz HW.out.1 hown hgrow)
        clear hown hgrow
        go_wp2_with fail
        go_roundw
        case rel => exact ⟨k + 1, L ++ [y], .slice (some ⟨t2, 0, none⟩) (L.length + 1) c2, by omega, by go_num, rfl, by rw [List.length_append, List.length_singleton, HLL.out], HN, HE⟩
        case measure => simp [intOf]; omega
      · obtain rfl : m = k := by omega
        have HE : Hid (ToldB (laneZ zs (j : Int)) w (.returned lv) wo) := Lib.hid (by
          have e := HLI.out
          rw [HM.out, List.take_length] at e
          rw [HL.out, ← e]; exact ⟨lv, rfl, HW.out.1, HW.out.2⟩)
        clear hlt hk hL
        go_wp2_with fail
        go_ret
        exact HE.out
  · have HL := Lib.hid (lane_no (zs := zs) hin)
    have HE : Hid (ToldB (laneZ zs i) w (.returned (.slice (some ⟨w.heap.size, 0, none⟩) 0 0)) (w.alloc (.cells #[] 4))) := Lib.hid (by rw [HL.out]; exact ⟨_, rfl, HR0.out, HB0.out⟩)
    by_cases h0 : i < 0
    · have d0 : decide (0 ≤ i) = false := by simp; omega
      clear hin h0
      by_cases hm0 : 0 < m
      all_goals
        go_enter Try.func15, Try.ntmps15
        go_wp2_with fail
        go_loopw [5, 6] (fun l i wr => i = .int .i64 0 ∧ l = .slice (some ⟨w.heap.size, 0, none⟩) 0 0 ∧ wr = w.alloc (.cells #[] 4)) (fun _ i _ => 0)
        case atStart => exact ⟨rfl, rfl, rfl⟩
        case round =>
          obtain ⟨rfl, rfl, rfl⟩ := hrel
          go_wp2_with fail
          go_ret
          exact HE.out
    · have d0 : decide (0 ≤ i) = true := by simp; omega
      have d1 : decide (i < 64) = false := by simp; omega
      clear hin h0
      by_cases hm0 : 0 < m
      all_goals
        go_enter Try.func15, Try.ntmps15
        go_wp2_with fail
        go_loopw [5, 6] (fun l i wr => i = .int .i64 0 ∧ l = .slice (some ⟨w.heap.size, 0, none⟩) 0 0 ∧ wr = w.alloc (.cells #[] 4)) (fun _ i _ => 0)
        case atStart => exact ⟨rfl, rfl, rfl⟩
        case round =>
          obtain ⟨rfl, rfl, rfl⟩ := hrel
          go_wp2_with fail
          go_ret
          exact HE.out
end Go.Proofs.Ytemolhmkhjfehaa.aig
