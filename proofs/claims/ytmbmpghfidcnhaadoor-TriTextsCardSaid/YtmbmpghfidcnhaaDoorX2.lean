/- The walks of tri's Text and Read. -/
import Derived.Test.YtmbmpghfidcnhaaDoorX1
namespace Go.Proofs.YtmbmpghfidcnhaaDoor.tri
open Go.RowKit Go.PlainAid
open Go.Proofs.YtmbmpghfidcnhaaDoor.fns Go.Proofs.YtmbmpghfidcnhaaDoor.ints

theorem infoByte : (Tryd.prog.info? 5).map (fun i => (i.zero, i.size, i.bytes)) = some (some (.int .u8 0), 1, 1) := by kernel_rfl
theorem byteCells_at (l : List UInt8) (k : Nat) (b : UInt8) (h : l[k]? = some b) : (Lib.byteCells l)[k]? = some (.int .u8 (b.toNat : Int)) := by
  rw [Lib.byteCells, List.getElem?_map, h]; rfl
theorem byteCells_len (l : List UInt8) : (Lib.byteCells l).length = l.length := by rw [Lib.byteCells, List.length_map]
theorem sg_at (ls : List Int) (k : Nat) (h : k < ls.length) : (ls.map sg)[k]? = some (sg (ls.getD k 0)) := by
  rw [List.getElem?_map, List.getElem?_eq_getElem h]; simp [List.getD, h]

set_option maxHeartbeats 800000 in
theorem Text_any (ls : List Int) (v : Value) (w : World) (hv : Ints w v ls) (hT : Sgn w) (hm : ls.length ≤ 2000) :
    Calls Tryd.prog 8 #[v] w fun e w' => e = .returned (.string (signs ls)) ∧ Below w.heap.size w w' := by
  obtain ⟨i0, hi, hz0, hz1, hz2⟩ := info_parts infoByte
  obtain ⟨a, cap, rfl, hc1, hc2, hcell⟩ := hv
  unfold maxLen at hc2
  obtain ⟨n, hn⟩ : ∃ n, n = ls.length := ⟨_, rfl⟩
  rw [← hn]
  obtain ⟨cs, hcs⟩ : ∃ cs, cs = Lib.byteCells (ls.map sg) := ⟨_, rfl⟩
  have hcl : cs.length = n := by rw [hcs, byteCells_len, List.length_map, hn]
  have HN := Lib.hid hn
  have HC := Lib.hid hcell
  have HT := Lib.hid hT
  have HCS := Lib.hid hcs
  have HCL := Lib.hid hcl
  have hn1 : n ≤ 2000 := by omega
  have hn2 : n ≤ cap := by omega
  clear hcell hn hm hc1 hT hcs hcl
  go_enter Tryd.func8, Tryd.ntmps8
  go_wp2_with (refine wpList_make_full _ rfl (.tmp 7) (.tmp 7) 37 rfl w.heap.size 5 i0 (.int .u8 0) 1 Tryd.underlying37 hi hz0 hz1 .i64 .i64 _ _ n rfl rfl rfl rfl (by rw [hz2]; omega) (by unfold maxLen; omega) (Nat.le_refl _) ?_)
  intro w1 hown hgrow
  have hb : Below w.heap.size w w1 := (Below.refl _ w).grown hgrow (Nat.le_refl _) (fun k hk => by cases hk)
  rw [show (madeCells #[Value.int IntKind.u8 0] n).toList = rowTo cs 0 (.int .u8 0) by rw [rowTo_zero, HCL.out]; exact made_one _ _] at hown
  clear hgrow
  go_wp2
  go_loopw [11] (fun i wr => ∃ k : Nat, k ≤ n ∧ i = .int .i64 k ∧ wr.ownsRow w.heap.size 5 1 (.slice (some ⟨w.heap.size, 0, none⟩) n n) n (rowTo cs k (.int .u8 0)) ∧ Below w.heap.size w wr) (fun i _ => n - (intOf i).toNat)
  case atStart => exact ⟨0, Nat.zero_le _, rfl, hown, hb⟩
  case round =>
    clear hown hb
    obtain ⟨k, hk, rfl, hown, hb⟩ := hrel
    by_cases h1 : k < n
    · have h1' := h1
      rw [HN.out] at h1'
      obtain ⟨b, off, rfl, hbs, hcs⟩ := HC.out (by omega)
      have hc := (hb.cell (p := ⟨b, off + k, none⟩) hbs).trans (hcs k h1')
      have hf := hown.frozenAt k
      have hx := hown.cellAt k (by omega)
      obtain ⟨u, hu⟩ : ∃ u, (rowTo cs k (.int .u8 0))[k]? = some u := ⟨_, List.getElem?_eq_getElem (by rw [rowTo_len _ _ _ (by rw [HCL.out]; omega), HCL.out]; exact h1)⟩
      rw [hu] at hx
      have hlt : b < w.heap.size := hbs
      obtain ⟨s0, s1, s2⟩ := (HT.out.on hb).cells
      obtain ⟨y, hy⟩ : ∃ y, y = ls.getD k 0 := ⟨_, rfl⟩
      rw [← hy] at hc
      have hg := sg_at ls k h1'
      rw [← hy] at hg
      have HG := Lib.hid (byteCells_at _ _ _ hg)
      have HO := Lib.hid hown
      have HB := Lib.hid hb
      clear hcs hu h1' hown hb hy hg
      rcases tv_cases y with hy | hy | hy
      · have HY := Lib.hid hy
        have hst := HO.out.stored k (.int .u8 48)
        rw [rowTo_set cs k _ _ (by rw [HCS.out, HG.out, sg_zero HY.out]; rfl)] at hst
        have HST := Lib.hid hst
        clear hy hst
        go_wp2_with fail
        go_at_call 14; refine (value_of HY.out _).mono ?_; rintro e w' ⟨rfl, rfl⟩
        go_wp2_with fail
        go_roundw
        case rel => exact ⟨k + 1, by omega, by go_num, HST.out.1, HB.out.setCell (p := ⟨w.heap.size, k, none⟩) (Nat.le_refl _) _⟩
        case measure => simp [intOf]; omega
      · have HY := Lib.hid hy
        have hst := HO.out.stored k (.int .u8 49)
        rw [rowTo_set cs k _ _ (by rw [HCS.out, HG.out, sg_one HY.out]; rfl)] at hst
        have HST := Lib.hid hst
        clear hy hst
        go_wp2_with fail
        go_at_call 14; refine (value_of HY.out _).mono ?_; rintro e w' ⟨rfl, rfl⟩
        go_wp2_with fail
        go_roundw
        case rel => exact ⟨k + 1, by omega, by go_num, HST.out.1, HB.out.setCell (p := ⟨w.heap.size, k, none⟩) (Nat.le_refl _) _⟩
        case measure => simp [intOf]; omega
      · have HY := Lib.hid hy
        have hst := HO.out.stored k (.int .u8 120)
        rw [rowTo_set cs k _ _ (by rw [HCS.out, HG.out, sg_two HY.out]; rfl)] at hst
        have HST := Lib.hid hst
        clear hy hst
        go_wp2_with fail
        go_at_call 14; refine (value_of HY.out _).mono ?_; rintro e w' ⟨rfl, rfl⟩
        go_wp2_with fail
        go_roundw
        case rel => exact ⟨k + 1, by omega, by go_num, HST.out.1, HB.out.setCell (p := ⟨w.heap.size, k, none⟩) (Nat.le_refl _) _⟩
        case measure => simp [intOf]; omega
    · obtain rfl : k = n := by omega
      have hl : (ls.map sg).length = k := by rw [List.length_map]; exact HN.out.symm
      have hown' := hown
      rw [show rowTo cs k (.int .u8 0) = cs by have := rowTo_all cs (.int .u8 0); rw [HCL.out] at this; exact this, HCS.out] at hown'
      have hcv := run_convert_bytes_back (P := Tryd.prog) wr 37 9 5 ⟨w.heap.size, 0, none⟩ k (ls.map sg) Tryd.underlying37 Tryd.underlying5 Tryd.underlying9 (fun j hj => hown'.cells (g := w.heap.size) rfl j _ (byteCells_at _ _ _ (List.getElem?_eq_getElem hj)))
      rw [hl] at hcv
      clear hl hown hown'
      go_wp2
      go_ret
      exact ⟨rfl, hb⟩

def GotVals (w : World) (r : List Int × Int) (e : Ending) (w' : World) : Prop := ∃ v, e = .returned (.tuple #[v, .int .i64 r.2]) ∧ Ints w' v r.1 ∧ Below w.heap.size w w'
theorem vals_at (s : ByteArray) (n k : Nat) (h : k < n) : ((valsTo s n).map (Value.int .i64))[k]? = some (.int .i64 (sv (bt s k))) := by
  rw [List.getElem?_map]; simp [valsTo, h]

set_option maxHeartbeats 800000 in
theorem Read_any (s : ByteArray) (w : World) (hT : Sgn w) (hm : s.size ≤ 2000) :
    Calls Tryd.prog 5 #[.string s] w (GotVals w (valsR s)) := by
  obtain ⟨i0, hi, hz0, hz1, hz2⟩ := info_parts infoInt
  have hgb := get_bt s
  obtain ⟨cs, hcs⟩ : ∃ cs, cs = (valsTo s s.size).map (Value.int .i64) := ⟨_, rfl⟩
  have hcl : cs.length = s.size := by rw [hcs, List.length_map, valsTo_len]
  have HT := Lib.hid hT
  have HCS := Lib.hid hcs
  have HCL := Lib.hid hcl
  clear hT hcs hcl
  go_enter Tryd.func5, Tryd.ntmps5
  go_wp2_with (refine wpList_make_full _ rfl (.tmp 9) (.tmp 9) 22 rfl w.heap.size 3 i0 (.int .i64 0) 1 Tryd.underlying22 hi hz0 hz1 .i64 .i64 _ _ s.size rfl rfl rfl rfl (by rw [hz2]; omega) (by unfold maxLen; omega) (Nat.le_refl _) ?_)
  intro w1 hown hgrow
  have hb : Below w.heap.size w w1 := (Below.refl _ w).grown hgrow (Nat.le_refl _) (fun k hk => by cases hk)
  rw [show (madeCells #[Value.int IntKind.i64 0] s.size).toList = rowTo cs 0 (.int .i64 0) by rw [rowTo_zero, HCL.out]; exact made_one _ _] at hown
  clear hgrow
  go_wp2
  go_loopw [13] (fun i wr => ∃ k : Nat, k ≤ s.size ∧ i = .int .i64 k ∧ Hid (good3 s k) ∧ wr.ownsRow w.heap.size 3 1 (.slice (some ⟨w.heap.size, 0, none⟩) s.size s.size) s.size (rowTo cs k (.int .i64 0)) ∧ Below w.heap.size w wr) (fun i _ => s.size - (intOf i).toNat)
  case atStart => exact ⟨0, Nat.zero_le _, rfl, Lib.hid fun i hi => by omega, hown, hb⟩
  case round =>
    clear hown hb
    obtain ⟨k, hk, rfl, HG, hown, hb⟩ := hrel
    by_cases h1 : k < s.size
    · have q0 := bt_nonneg s k
      have q1 := bt_le s k
      have HB := Lib.hid hb
      have HS := Lib.hid (HT.out.on hb)
      by_cases hs : 0 ≤ sv (bt s k)
      · have hf := hown.frozenAt k
        have hx := hown.cellAt k (by omega)
        obtain ⟨u, hu⟩ : ∃ u, (rowTo cs k (.int .i64 0))[k]? = some u := ⟨_, List.getElem?_eq_getElem (by rw [rowTo_len _ _ _ (by rw [HCL.out]; omega), HCL.out]; exact h1)⟩
        rw [hu] at hx
        have hst := hown.stored k (.int .i64 (sv (bt s k)))
        rw [rowTo_set cs k _ _ (by rw [HCS.out]; exact vals_at s s.size k h1)] at hst
        have HST := Lib.hid hst
        have HG2 := Lib.hid (good_step HG.out hs)
        have HV := Lib.hid hs
        clear hs hown hb hu hst
        go_wp2_with fail
        go_at_call 13; refine (valueOf_yes HV.out _ HS.out).mono ?_; rintro e w' ⟨rfl, rfl⟩
        go_wp2_with fail
        go_roundw
        case rel => exact ⟨k + 1, by omega, by go_num, HG2, HST.out.1, HB.out.setCell (p := ⟨w.heap.size, k, none⟩) (Nat.le_refl _) _⟩
        case measure => simp [intOf]; omega
      · have hs2 : sv (bt s k) = -1 := by have := sv_bd (bt s k); omega
        have HR := Lib.hid (valsR_bad h1 hs2)
        have HV := Lib.hid hs2
        clear hs hs2 hown hb
        go_wp2_with fail
        go_at_call 13; refine (valueOf_no HV.out _ HS.out).mono ?_; rintro e w' ⟨rfl, rfl⟩
        go_wp2_with fail
        go_ret2
        exact ⟨.slice none 0 0, two_ret HR.out, by rw [HR.out]; exact ints_empty _ _ _ (by unfold maxLen; omega), HB.out⟩
    · have HK : Hid (k = s.size) := Lib.hid (by omega)
      have c1 : decide ((k : Int) < (s.size : Int)) = false := by simp; omega
      have HR := Lib.hid (valsR_good (HK.out ▸ HG.out))
      have HO := Lib.hid hown
      have HB := Lib.hid hb
      clear hown hb
      go_wp2
      go_ret2
      refine ⟨.slice (some ⟨w.heap.size, 0, none⟩) s.size s.size, two_ret HR.out, ?_, HB.out⟩
      have hown := HO.out
      rw [HR.out]
      rw [show rowTo cs k (.int .i64 0) = cs by have := rowTo_all cs (.int .i64 0); rw [HCL.out, ← HK.out] at this; exact this, HCS.out] at hown
      exact ints_of_owned (B := w.heap.size) (by rw [valsTo_len]; exact hown)
end Go.Proofs.YtmbmpghfidcnhaaDoor.tri
