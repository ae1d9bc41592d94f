/- The walk of the project's simulation: Lane. -/
import Derived.Test.YtemolhmkhjfehaaD8
namespace Go.Proofs.Ytemolhmkhjfehaa.aig
open Go.RowKit
open Go.Proofs.Ytemolhmkhjfehaa.mem Go.Proofs.Ytemolhmkhjfehaa.agf
open Go.Proofs.Ytemolhmkhjfehaa.nats (Rd U rd_len rd_cell rd_form Rd.on rd_of_owned)

/-- the bits so far -/
def laneTo (zs : List Nat) (j m k : Nat) : List Bool := (List.range m).map fun i => decide (i < k) && (zs.getD i 0).testBit j
theorem laneTo_len (zs : List Nat) (j m k : Nat) : (laneTo zs j m k).length = m := by simp [laneTo]
theorem laneTo_zero (zs : List Nat) (j m : Nat) : laneTo zs j m 0 = List.replicate m false := by
  apply List.ext_getElem
  · simp [laneTo]
  · intro i h1 h2
    simp [laneTo]
theorem laneTo_set (zs : List Nat) (j : Nat) {m k : Nat} (_h : k < m) : (laneTo zs j m k).set k ((zs.getD k 0).testBit j) = laneTo zs j m (k + 1) := by
  apply List.ext_getElem
  · simp [laneTo]
  · intro i h1 h2
    rw [List.getElem_set]
    by_cases e : k = i
    · subst e; simp [laneTo]
    · rw [if_neg e]
      simp only [laneTo, List.getElem_map, List.getElem_range]
      by_cases h : i < k
      · rw [decide_eq_true h, decide_eq_true (show i < k + 1 by omega)]
      · rw [decide_eq_false h, decide_eq_false (show ¬ i < k + 1 by omega)]
theorem laneTo_all (zs : List Nat) (j : Nat) : laneTo zs j zs.length zs.length = zs.map fun z => z.testBit j := by
  apply List.ext_getElem
  · simp [laneTo]
  · intro i h1 h2
    have h : i < zs.length := by simpa [laneTo] using h1
    simp only [laneTo, List.getElem_map, List.getElem_range]
    rw [decide_eq_true h, Bool.true_and]
    simp [List.getD, h]
theorem shr_bitN {x : Nat} (hx : x < 18446744073709551616) (j : Nat) : bits .and .u64 ((x : Int) / 2 ^ j) 1 = if x.testBit j then 1 else 0 := by
  have e : ((x : Int) / 2 ^ j) = ((x / 2 ^ j : Nat) : Int) := by simp
  have hle := Nat.div_le_self x (2 ^ j)
  rw [e]
  refine (u64_and_nat (x / 2 ^ j) 1 (by omega) (by omega)).trans ?_
  rw [Nat.and_one_is_mod]
  cases h : x.testBit j with
  | true => rw [(bit_div x j).2 h]; rfl
  | false =>
    have h1 : ¬ (x / 2 ^ j % 2 = 1) := fun e => by rw [bit_div] at e; rw [h] at e; cases e
    rw [show x / 2 ^ j % 2 = 0 by omega]; rfl
theorem madeB9 (n : Nat) : (madeCells #[Value.bool false] n).toList = (List.replicate n false).map Value.bool := by
  simp [madeCells, Nat.mod_one, List.map_const']
theorem kb_nil (w : World) : KB w (.slice none 0 0) [] := ⟨none, 0, rfl, Nat.le_refl _, by unfold maxLen; omega, fun h => by simp at h⟩
set_option maxRecDepth 100000 in
set_option maxHeartbeats 1600000 in
theorem sLane_any (v : Value) (zs : List Nat) (i : Int) (w : World) (hv : Rd U w v zs) (hz : ∀ b ∈ zs, b < 18446744073709551616) (hn : zs.length ≤ 1001) :
    Calls Try.prog 19 #[v, .int .i64 i] w (TellsB (laneZ zs i) w) := by
  obtain ⟨i0, hi, hz0, hz1, hz2⟩ := info_parts infoB
  have HV := Lib.hid hv
  have HZ := Lib.hid (rd_lt hz)
  obtain ⟨a, cap, rfl⟩ := rd_form hv
  obtain ⟨-, l1, l2⟩ := rd_len hv
  unfold maxLen at l2
  obtain ⟨m, hm⟩ : ∃ m, m = zs.length := ⟨_, rfl⟩
  rw [← hm] at l1 hn HV ⊢
  have HM := Lib.hid hm
  clear hv hz hm
  by_cases hin : 0 ≤ i ∧ i < 64
  · obtain ⟨j, rfl⟩ := Int.eq_ofNat_of_zero_le hin.1
    have hj : j < 64 := by omega
    have HL := Lib.hid (lane_yes zs hj)
    have c1 : decide ((j : Int) < 0) = false := by simp
    have c2 : decide (64 ≤ (j : Int)) = false := by simp; omega
    have c3 : decide (64 ≤ j) = false := by simp; omega
    clear hin
    go_enter Try.func19, Try.ntmps19
    go_wp2_with (refine wpList_make_full _ rfl (.tmp 15) (.tmp 15) 23 rfl w.heap.size 4 i0 (.bool false) 1 Try.underlying23 hi hz0 hz1 .i64 .i64 _ _ m rfl rfl rfl rfl (by rw [hz2]; omega) (by unfold maxLen; omega) (Nat.le_refl _) ?_)
    intro w2 hown hgrow
    obtain ⟨R, hR⟩ : ∃ R, R = w.heap.size := ⟨_, rfl⟩
    have HB2 : Hid (Below w.heap.size w w2) := Lib.hid ((Below.refl _ _).grown hgrow (Nat.le_refl _) (fun k hk => by cases hk))
    have HRR : Hid (w.heap.size ≤ R) := Lib.hid (by rw [hR]; exact Nat.le_refl _)
    have HO2 : Hid (w2.ownsRow w.heap.size 4 1 (.slice (some ⟨R, 0, none⟩) m m) m ((laneTo zs j m 0).map Value.bool)) := Lib.hid (by
      have h := hown
      rw [madeB9] at h
      rw [laneTo_zero, hR]; exact h)
    rw [← hR]
    clear hown hgrow hR
    go_wp2_with fail
    go_loopw [19] (fun i wr => ∃ k : Nat, k ≤ m ∧ i = .int .i64 k ∧ Hid (wr.ownsRow w.heap.size 4 1 (.slice (some ⟨R, 0, none⟩) m m) m ((laneTo zs j m k).map Value.bool) ∧ Below w.heap.size w wr)) (fun i _ => m - (intOf i).toNat)
    case atStart => exact ⟨0, Nat.zero_le _, rfl, Lib.hid ⟨HO2.out, HB2.out⟩⟩
    case round =>
      clear HO2 HB2
      obtain ⟨k, hk, rfl, HW⟩ := hrel
      obtain ⟨wo, rfl⟩ : ∃ wo : World, wo = wr := ⟨_, rfl⟩
      by_cases hlt : k < m
      · obtain ⟨b, off, rfl, -, e1⟩ := rd_cell (HV.out.on HW.out.2) hlt
        have HST := Lib.hid (laneTo_set zs j hlt)
        have hx := HZ.out k
        obtain ⟨x, hx'⟩ : ∃ x, x = zs.getD k 0 := ⟨_, rfl⟩
        rw [← hx'] at e1 HST hx
        have g1 := shr_bitN hx j
        have d1 : (k : Int) < (m : Int) := by omega
        have d2 : 0 ≤ (k : Int) := by omega
        have hrow := HW.out.1
        have f3 := hrow.frozenAt k
        have z3 := hrow.cellAt k (by omega)
        obtain ⟨u3, hu3⟩ : ∃ u, ((laneTo zs j m k).map Value.bool)[k]? = some u := ⟨_, List.getElem?_eq_getElem (by rw [List.length_map, laneTo_len]; exact hlt)⟩
        rw [hu3] at z3
        obtain ⟨y, hy⟩ : ∃ y, y = x.testBit j := ⟨_, rfl⟩
        rw [← hy] at g1 HST
        clear hx' hx hy hrow hu3
        have HE := HW
        cases y with
        | true =>
          simp only [if_true] at g1
          go_wp2_with fail
          go_roundw
          case rel =>
            have s1 := (HE.out.1.stored k (Value.bool true)).1
            rw [← List.map_set, HST.out] at s1
            exact ⟨k + 1, by omega, by go_num, Lib.hid ⟨s1, HE.out.2.setCell (p := ⟨R, k, none⟩) HRR.out _⟩⟩
          case measure => simp [intOf]; omega
        | false =>
          simp only [Bool.false_eq_true, if_false] at g1
          go_wp2_with fail
          go_roundw
          case rel =>
            have s1 := (HE.out.1.stored k (Value.bool false)).1
            rw [← List.map_set, HST.out] at s1
            exact ⟨k + 1, by omega, by go_num, Lib.hid ⟨s1, HE.out.2.setCell (p := ⟨R, k, none⟩) HRR.out _⟩⟩
          case measure => simp [intOf]; omega
      · obtain rfl : m = k := by omega
        have HE : Hid (TellsB (laneZ zs (j : Int)) w (.returned (.slice (some ⟨R, 0, none⟩) m m)) wo) := Lib.hid (by
          have h := HW.out.1
          rw [HM.out, laneTo_all] at h
          rw [HL.out, HM.out]
          refine ⟨_, rfl, ?_, HW.out.2⟩
          have hl : (zs.map fun z => z.testBit j).length = zs.length := by simp
          have h2 := kb_row (w := wo) (base := w.heap.size) (v := .slice (some ⟨R, 0, none⟩) zs.length zs.length) (bs := zs.map fun z => z.testBit j) (by rw [hl]; exact h)
          exact h2)
        clear hlt hk
        go_wp2_with fail
        go_ret
        exact HE.out
  · have HL := Lib.hid (lane_no (zs := zs) hin)
    have HE : Hid (TellsB (laneZ zs i) w (.returned (.slice none 0 0)) w) := Lib.hid (by rw [HL.out]; exact ⟨_, rfl, kb_nil _, Below.refl _ _⟩)
    by_cases h0 : i < 0
    · clear hin
      go_enter Try.func19, Try.ntmps19
      go_wp2_with fail
      go_ret
      exact HE.out
    · have d0 : decide (i < 0) = false := by simp; omega
      have d1 : decide (64 ≤ i) = true := by simp; omega
      clear hin
      go_enter Try.func19, Try.ntmps19
      go_wp2_with fail
      go_ret
      exact HE.out
end Go.Proofs.Ytemolhmkhjfehaa.aig
