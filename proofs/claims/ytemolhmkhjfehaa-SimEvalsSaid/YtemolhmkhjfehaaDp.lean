/- The walk of the project's simulation: Pack. -/
import Derived.Test.YtemolhmkhjfehaaDw
import Derived.Test.YtemolhmkhjfehaaD5
import Derived.Laws.ShiftsVarLaws
namespace Go.Proofs.Ytemolhmkhjfehaa.aig
open Go.RowKit
open Go.Proofs.Ytemolhmkhjfehaa.mem Go.Proofs.Ytemolhmkhjfehaa.agf
open Go.Proofs.Ytemolhmkhjfehaa.nats (Rd U rd_len rd_cell rd_form Rd.on rd_of_owned)

/-- the words so far: i lists, and of the i-th one the first k -/
def rowP (LL : List (List Bool)) (n i k : Nat) : List Nat := (List.range n).map fun j => if j < k then packW LL j (i + 1) else packW LL j i
theorem rowP_len (LL : List (List Bool)) (n i k : Nat) : (rowP LL n i k).length = n := by simp [rowP]
theorem rowP_zero (LL : List (List Bool)) (n : Nat) : rowP LL n 0 0 = List.replicate n 0 := by
  apply List.ext_getElem
  · simp [rowP]
  · intro j h1 h2
    simp [rowP, packW]
theorem rowP_at (LL : List (List Bool)) {n i k : Nat} (h : k < n) : (rowP LL n i k)[k]? = some (packW LL k i) := by
  simp [rowP, h]
theorem rowP_set (LL : List (List Bool)) {n i k : Nat} : (rowP LL n i k).set k (packW LL k (i + 1)) = rowP LL n i (k + 1) := by
  apply List.ext_getElem
  · simp [rowP]
  · intro j h1 h2
    rw [List.getElem_set]
    by_cases e : k = j
    · subst e; simp [rowP]
    · rw [if_neg e]
      simp only [rowP, List.getElem_map, List.getElem_range]
      by_cases h : j < k
      · rw [if_pos h, if_pos (by omega)]
      · rw [if_neg h, if_neg (by omega)]
theorem rowP_keep {LL : List (List Bool)} {n i k : Nat} (h : packW LL k (i + 1) = packW LL k i) : rowP LL n i k = rowP LL n i (k + 1) := by
  unfold rowP
  apply List.map_congr_left
  intro j _
  by_cases h1 : j < k
  · rw [if_pos h1, if_pos (by omega)]
  · rw [if_neg h1]
    by_cases e : j = k
    · subst e; rw [if_pos (by omega), h]
    · rw [if_neg (by omega)]
theorem rowP_next (LL : List (List Bool)) {n i k : Nat} (h : (LL.getD i []).length ≤ k) : rowP LL n i k = rowP LL n (i + 1) 0 := by
  unfold rowP
  apply List.map_congr_left
  intro j _
  by_cases h1 : j < k
  · rw [if_pos h1, if_neg (by omega)]
  · rw [if_neg h1, if_neg (by omega)]
    refine (packW_no ?_).symm
    simp only [List.getD] at h ⊢
    generalize LL[i]?.getD [] = l at h ⊢
    rw [List.getElem?_eq_none (by omega)]; rfl
theorem rowP_all (LL : List (List Bool)) : rowP LL (packN LL (packI LL)) (packI LL) 0 = packL LL := by
  unfold rowP packL
  apply List.map_congr_left
  intro j _
  rw [if_neg (by omega)]
theorem madeU9 (n : Nat) : (madeCells #[Value.int IntKind.u64 0] n).toList = (List.replicate n 0).map U := by
  simp [madeCells, Nat.mod_one, List.map_const', U]
theorem or_pow {x q : Nat} (hx : x < 2 ^ q) : x ||| 2 ^ q = x + 2 ^ q := by
  have h := Nat.two_pow_add_eq_or_of_lt hx 1
  rw [Nat.mul_one] at h
  rw [Nat.or_comm, ← h, Nat.add_comm]
theorem or_bits {x q : Nat} (hx : x < 2 ^ q) (hq : q < 64) : bits .or .u64 (x : Int) (IntKind.u64.wrap ((2 : Int) ^ q)) = ((x + 2 ^ q : Nat) : Int) := by
  have h1 : 2 ^ q ≤ 2 ^ 63 := Nat.pow_le_pow_right (by omega) (show q ≤ 63 by omega)
  have e63 : (2 : Nat) ^ 63 = 9223372036854775808 := by decide
  have e : ((2 : Int) ^ q) = ((2 ^ q : Nat) : Int) := by simp
  rw [e, IntWalk.u64_in _ (by omega)]
  refine (u64_or_nat x (2 ^ q) (by omega) (by omega)).trans ?_
  rw [or_pow hx]
set_option maxRecDepth 100000 in
set_option maxHeartbeats 3200000 in
theorem sPack_any (v : Value) (LL : List (List Bool)) (w : World) (hv : GridB w v LL) (hl : ∀ l ∈ LL, l.length ≤ 1000) (hn : LL.length ≤ 1000) :
    Calls Try.prog 17 #[v] w fun e w' => ∃ u, e = .returned u ∧ Rd U w' u (packL LL) ∧ Below w.heap.size w w' := by
  obtain ⟨i0, hi, hz0, hz1, hz2⟩ := info_parts infoU
  have HV := Lib.hid hv
  have HLK := Lib.hid (getD_le hl)
  have HPN := Lib.hid (packN_le hl)
  obtain ⟨a, cap, rfl, l1, l2, -⟩ := hv
  unfold maxLen at l2
  obtain ⟨n, hnn⟩ : ∃ n, n = LL.length := ⟨_, rfl⟩
  obtain ⟨I, hI⟩ : ∃ I, I = packI LL := ⟨_, rfl⟩
  have hI2 : I = min n 64 := by rw [hI, hnn]; rfl
  rw [← hnn] at l1 hn HV ⊢
  have HNN := Lib.hid hnn
  have HI := Lib.hid hI
  have hIn : I ≤ n := by omega
  have hI64 : I ≤ 64 := by omega
  have HMIN : Hid (min (n : Int) 64 = (I : Int)) := Lib.hid (by omega)
  clear hl hnn hI
  go_enter Try.func17, Try.ntmps17
  go_upto_region 1 with fail
  go_cut [0] (fun s0 wx => s0 = .slice a I cap ∧ wx = w)
  case first =>
    by_cases h64 : n ≤ 64
    · obtain rfl : n = I := by omega
      clear hI2
      go_wp2_with fail
      go_meet
      exact ⟨rfl, rfl⟩
    · obtain rfl : I = 64 := by omega
      clear hI2
      go_wp2_with fail
      go_meet
      exact ⟨rfl, rfl⟩
  case rest =>
    obtain ⟨rfl, hwc⟩ := hcut
    obtain rfl := hwc
    obtain ⟨w0, hw0⟩ : ∃ w0 : World, w0 = wc := ⟨_, rfl⟩
    clear hI2
    go_wp2_with fail
    go_loopw [3, 18] (fun l i wr => ∃ (k j : Nat), k ≤ I ∧ i = .int .i64 k ∧ l = .int .i64 j ∧ j ≤ 1000 ∧ Hid (j = packN LL k) ∧ wr = wc) (fun _ i _ => I - (intOf i).toNat)
    case atStart => exact ⟨0, 0, Nat.zero_le _, rfl, rfl, by omega, Lib.hid rfl, rfl⟩
    case round =>
      obtain ⟨k, j, hk, rfl, rfl, hj, HJ, rfl⟩ := hrel
      by_cases hlt : k < I
      · have d1 : (k : Int) < (I : Int) := by omega
        have d2 : 0 ≤ (k : Int) := by omega
        obtain ⟨b, off, rfl, hb, ra, rcap, hc, r1, r2, -⟩ := HV.out.at_ (show k < n by omega)
        unfold maxLen at r1
        have hlk := HLK.out k
        have HST := Lib.hid (packN_step (LL := LL) (i := k) (by rw [← HNN.out]; omega))
        rw [← HJ.out] at HST
        obtain ⟨lk, hlke⟩ : ∃ lk, lk = (LL.getD k []).length := ⟨_, rfl⟩
        rw [← hlke] at hc hlk HST r2
        clear hlke hb
        by_cases hle : lk ≤ j
        · have m1 : decide ((j : Int) < (lk : Int)) = false := by simp; omega
          have m2 : decide (j < lk) = false := by simp; omega
          have HN : Hid (j = packN LL (k + 1)) := Lib.hid (by rw [HST.out]; omega)
          go_wp2_with fail
          go_roundw
          case rel => exact ⟨k + 1, j, by omega, by go_num, by go_num, hj, HN, trivial⟩
          case measure => simp [intOf]; omega
        · have m1 : decide ((j : Int) < (lk : Int)) = true := by simp; omega
          have m2 : decide (j < lk) = true := by simp; omega
          have HN : Hid (lk = packN LL (k + 1)) := Lib.hid (by rw [HST.out]; omega)
          go_wp2_with fail
          go_roundw
          case rel => exact ⟨k + 1, lk, by omega, by go_num, by go_num, by omega, HN, trivial⟩
          case measure => simp [intOf]; omega
      · obtain rfl : I = k := by omega
        have HGE := Lib.hid (packN_ge (LL := LL) I (by rw [← HNN.out]; omega))
        rw [← HJ.out] at HGE
        clear hlt hk
        go_wp2_with (refine wpList_make_full _ rfl (.tmp 27) (.tmp 27) 30 rfl wr.heap.size 32 i0 (.int .u64 0) 1 Try.underlying30 hi hz0 hz1 .i64 .i64 _ _ j rfl rfl rfl rfl (by rw [hz2]; omega) (by unfold maxLen; omega) (Nat.le_refl _) ?_)
        intro w2 hown hgrow
        obtain ⟨R, hR⟩ : ∃ R, R = wr.heap.size := ⟨_, rfl⟩
        have HB2 : Hid (Below wr.heap.size wr w2) := Lib.hid ((Below.refl _ _).grown hgrow (Nat.le_refl _) (fun k hk => by cases hk))
        have HRR : Hid (wr.heap.size ≤ R) := Lib.hid (by rw [hR]; exact Nat.le_refl _)
        have HO2 : Hid (w2.ownsRow wr.heap.size 32 1 (.slice (some ⟨R, 0, none⟩) j j) j ((rowP LL j 0 0).map U)) := Lib.hid (by
          have h := hown
          rw [madeU9] at h
          rw [rowP_zero, hR]; exact h)
        rw [← hR]
        clear hown hgrow hR
        go_wp2_with fail
        obtain ⟨wb, rfl⟩ : ∃ wb : World, wb = wr := ⟨_, rfl⟩
        go_loopw [31] (fun i wr => ∃ k : Nat, k ≤ I ∧ i = .int .i64 k ∧ Hid (wr.ownsRow wb.heap.size 32 1 (.slice (some ⟨R, 0, none⟩) j j) j ((rowP LL j k 0).map U) ∧ Below wb.heap.size wb wr)) (fun i _ => I - (intOf i).toNat)
        case atStart => exact ⟨0, Nat.zero_le _, rfl, Lib.hid ⟨HO2.out, HB2.out⟩⟩
        case round =>
          clear HO2 HB2
          obtain ⟨k, hk, rfl, HW⟩ := hrel
          obtain ⟨wo, rfl⟩ : ∃ wo : World, wo = wr := ⟨_, rfl⟩
          by_cases hlt : k < I
          · have d1 : (k : Int) < (I : Int) := by omega
            have d2 : 0 ≤ (k : Int) := by omega
            obtain ⟨b, off, rfl, hbl, ra, rcap, hc0, r1, r2, hkb⟩ := HV.out.at_ (show k < n by omega)
            have hc := (HW.out.2.cell (p := ⟨b, off + k, none⟩) hbl).trans hc0
            unfold maxLen at r1
            have hlk := HLK.out k
            have hge := HGE.out k hlt
            have hk64 : k < 64 := by omega
            have HNX := Lib.hid (fun q (h : (LL.getD k []).length ≤ q) => rowP_next LL (n := j) (i := k) (k := q) h)
            obtain ⟨lk, hlke⟩ : ∃ lk, lk = (LL.getD k []).length := ⟨_, rfl⟩
            rw [← hlke] at hc hlk hge hkb HNX r2
            have HKB := Lib.hid hkb
            clear hlke hkb hc0 hbl
            go_wp2_with fail
            go_loopw [38] (fun i wr => ∃ q : Nat, q ≤ lk ∧ i = .int .i64 q ∧ Hid (wr.ownsRow wb.heap.size 32 1 (.slice (some ⟨R, 0, none⟩) j j) j ((rowP LL j k q).map U) ∧ Below wb.heap.size wb wr)) (fun i _ => lk - (intOf i).toNat)
            case atStart => exact ⟨0, Nat.zero_le _, rfl, HW⟩
            case round =>
              clear hc
              clear HW
              obtain ⟨q, hq, rfl, HW⟩ := hrel
              obtain ⟨wi, rfl⟩ : ∃ wi : World, wi = wr := ⟨_, rfl⟩
              by_cases hql : q < lk
              · have d3 : (q : Int) < (lk : Int) := by omega
                have d4 : 0 ≤ (q : Int) := by omega
                have d5 : (q : Int) < (j : Int) := by omega
                obtain ⟨rb, roff, rfl, -, eb⟩ := (HKB.out.on HW.out.2).at_ hql
                obtain ⟨bit, hbit⟩ : ∃ bit, bit = (LL.getD k []).getD q false := ⟨_, rfl⟩
                rw [← hbit] at eb
                cases bit with
                | true =>
                  have HS := Lib.hid (rowP_set LL (n := j) (i := k) (k := q))
                  have hx := pack_lt LL q k
                  have e2 := packW_yes (LL := LL) (k := q) (i := k) hbit.symm
                  have hob := or_bits hx hk64
                  rw [← e2] at hob
                  have hrow := HW.out.1
                  have f3 := hrow.frozenAt q
                  have z3 := hrow.cellAt q (by omega)
                  rw [List.getElem?_map, rowP_at LL (show q < j by omega)] at z3
                  simp only [Option.map_some] at z3
                  obtain ⟨x, hxx⟩ : ∃ x, x = packW LL q k := ⟨_, rfl⟩
                  obtain ⟨y, hyy⟩ : ∃ y, y = packW LL q (k + 1) := ⟨_, rfl⟩
                  rw [← hxx] at z3 hob
                  rw [← hyy] at hob HS
                  have z3 : wi.cell? ⟨R, q, none⟩ = some (.int .u64 (x : Int)) := z3
                  have t1 : decide (64 ≤ (k : Int)) = false := by simp; omega
                  have t2 : decide (64 ≤ k) = false := by simp; omega
                  have HE := HW
                  clear hrow hbit hx e2 hxx hyy
                  have HRW := Lib.hid HW.out.1
                  have HOB := Lib.hid hob
                  clear hob
                  have HST2 : Hid ((wi.drew.setCell ⟨R, q, none⟩ (U y)).ownsRow wb.heap.size 32 1 (.slice (some ⟨R, 0, none⟩) j j) j ((rowP LL j k (q + 1)).map U) ∧ Below wb.heap.size wb (wi.drew.setCell ⟨R, q, none⟩ (U y))) := Lib.hid (by
                    have hd := own_on HRW.out ((Below.refl _ wi).drew)
                    have s1 := (hd.stored q (U y)).1
                    rw [← List.map_set, HS.out] at s1
                    have s2 := HE.out.2.drew.setCell (p := ⟨R, q, none⟩) HRR.out (U y)
                    exact ⟨s1, s2⟩)
                  go_upto_region 16 with fail
                  refine wp_region_still_tail 8 (by kernel_rfl) (by kernel_rfl) ?_
                  simp only [List.take_succ_cons, List.take_zero, List.drop_succ_cons, List.drop_zero]
                  generalize hW : ({ heap := wi.heap, tape := wi.tape, drawn := wi.drawn + 1, os := wi.os, output := wi.output } : World) = W
                  have HWD : Hid (wi.drew = W) := Lib.hid hW
                  replace z3 : W.cell? ⟨R, q, none⟩ = some (.int .u64 (x : Int)) := by rw [← hW]; exact z3
                  replace f3 : W.frozen? ⟨R, q, none⟩ = false := by rw [← hW]; exact f3
                  clear hW
                  repeat still_step
                  refine wpStill_nil ?_
                  go_wp2_with fail
                  rw [← HWD.out]
                  go_roundw
                  case rel => exact ⟨q + 1, by omega, by go_num, by rw [HOB.out]; exact HST2⟩
                  case measure => simp [intOf]; omega
                | false =>
                  have HKE := Lib.hid (rowP_keep (n := j) (packW_no (LL := LL) (k := q) (i := k) hbit.symm))
                  have HE : Hid (wi.ownsRow wb.heap.size 32 1 (.slice (some ⟨R, 0, none⟩) j j) j ((rowP LL j k (q + 1)).map U) ∧ Below wb.heap.size wb wi) := Lib.hid ⟨by rw [← HKE.out]; exact HW.out.1, HW.out.2⟩
                  clear hbit HW HKE
                  go_wp2_with fail
                  go_roundw
                  case rel => exact ⟨q + 1, by omega, by go_num, HE⟩
                  case measure => simp [intOf]; omega
              · obtain rfl : lk = q := by omega
                have HE : Hid (wi.ownsRow wb.heap.size 32 1 (.slice (some ⟨R, 0, none⟩) j j) j ((rowP LL j (k + 1) 0).map U) ∧ Below wb.heap.size wb wi) := Lib.hid ⟨by rw [← HNX.out lk (Nat.le_refl _)]; exact HW.out.1, HW.out.2⟩
                clear hql hq
                go_wp2_with fail
                go_roundw
                case rel => exact ⟨k + 1, by omega, by go_num, HE⟩
                case measure => simp [intOf]; omega
          · obtain rfl : I = k := by omega
            have HE : Hid (Rd U wo (.slice (some ⟨R, 0, none⟩) j j) (packL LL) ∧ Below wb.heap.size wb wo) := Lib.hid ⟨by
              have h := HW.out.1
              have e : (packL LL).length = packN LL (packI LL) := packL_len LL
              have ej : j = (packL LL).length := by rw [e, HJ.out, HI.out]
              rw [HJ.out, HI.out, rowP_all, ← e] at h
              rw [ej]
              exact rd_of_owned h, HW.out.2⟩
            clear hlt hk
            go_wp2_with fail
            go_ret
            exact ⟨_, rfl, HE.out⟩
end Go.Proofs.Ytemolhmkhjfehaa.aig
