/- The walk of the document's Sorted. -/
import Derived.Test.YtjmiclgagjkooaaDoorS
namespace Go.Proofs.YtjmiclgagjkooaaDoor.lits
open Go.RowKit
open Go.Proofs.YtjmiclgagjkooaaDoor.fns

theorem infoInt : (Tryd.prog.info? 3).map (fun i => (i.zero, i.size, i.bytes)) = some (some (.int .i64 0), 1, 8) := by kernel_rfl

/-- a slice of the call's own that is not nil and reads as these numbers -/
def Own (B : Nat) (w : World) (v : Value) (zs : List Int) : Prop :=
  ∃ g cap, v = .slice (some ⟨g, 0, none⟩) zs.length cap ∧ B ≤ g ∧ g < w.heap.size ∧ zs.length ≤ cap ∧ cap ≤ maxLen ∧ w.ownsRow B 3 1 v zs.length (zs.map (Value.int .i64))
theorem Own.ints {B : Nat} {w : World} {v : Value} {zs : List Int} (h : Own B w v zs) : Ints w v zs := by
  obtain ⟨g, cap, rfl, -, -, -, -, h⟩ := h; exact ints_of_owned h
theorem Own.mono {B B' : Nat} {w : World} {v : Value} {zs : List Int} (h : Own B w v zs) (hB : B' ≤ B) : Own B' w v zs := by
  obtain ⟨g, cap, rfl, h1, h2, h3, h4, h⟩ := h
  refine ⟨g, cap, rfl, by omega, h2, h3, h4, h.1, ?_⟩
  rcases h.2 with ⟨e, -⟩ | ⟨g', cap', cur, e, e1, e2⟩
  · cases e
  · exact .inr ⟨g', cap', cur, e, by omega, e2⟩
theorem own_of {B n : Nat} {w : World} {v : Value} {zs : List Int} {cs : List Value} (h : w.ownsRow B 3 1 v n cs) (hn : n = zs.length) (hc : cs = zs.map (Value.int .i64)) (hp : 0 < n) : Own B w v zs := by
  subst hn hc
  have hne : v ≠ .slice none 0 0 := by
    rcases h.2 with ⟨-, e⟩ | ⟨g, cap, cur, rfl, -⟩
    · omega
    · intro e; cases e
  obtain ⟨g, cap, rfl, h1, h2, h3, h4, -, -⟩ := Lib.holds_of_ownsRow h hne
  exact ⟨g, cap, rfl, h1, h2, h3, h4, h⟩
theorem own_cell {B g cap n : Nat} {w : World} {zs : List Int} (h : w.ownsRow B 3 1 (.slice (some ⟨g, 0, none⟩) n cap) n (zs.map (Value.int .i64))) (hn : n = zs.length) (j : Nat) (hj : j < n) : w.cell? ⟨g, j, none⟩ = some (.int .i64 (zs.getD j 0)) := by
  rw [h.cellAt j (by omega), List.getElem?_map, List.getElem?_eq_getElem (by omega)]
  simp [List.getD, show j < zs.length by omega]
theorem map_snoc (l : List Int) (y : Int) : l.map (Value.int .i64) ++ [Value.int .i64 y] = (l ++ [y]).map (Value.int .i64) := by simp
theorem take_one {zs : List Int} {k : Nat} (h : k < zs.length) : zs.take (k + 1) = zs.take k ++ [zs.getD k 0] := by
  rw [List.take_succ_eq_append_getElem h, getD_of h]

/-- the numbers of the first j that are below, or above, x -/
def lows (out : List Int) (x : Int) (j : Nat) : List Int := (out.take j).filter fun y => decide (y < x)
def highs (out : List Int) (x : Int) (j : Nat) : List Int := (out.take j).filter fun y => decide (x < y)
theorem lows_yes {out : List Int} {x : Int} {j : Nat} (h : j < out.length) (h2 : out.getD j 0 < x) : lows out x (j + 1) = lows out x j ++ [out.getD j 0] := by
  unfold lows; rw [take_one h, List.filter_append]; simp only [List.filter_cons, List.filter_nil, h2, decide_true, if_true]
theorem lows_no {out : List Int} {x : Int} {j : Nat} (h : j < out.length) (h2 : ¬ out.getD j 0 < x) : lows out x (j + 1) = lows out x j := by
  unfold lows; rw [take_one h, List.filter_append]; simp only [List.filter_cons, List.filter_nil, h2, decide_false, Bool.false_eq_true, if_false, List.append_nil]
theorem highs_yes {out : List Int} {x : Int} {j : Nat} (h : j < out.length) (h2 : x < out.getD j 0) : highs out x (j + 1) = highs out x j ++ [out.getD j 0] := by
  unfold highs; rw [take_one h, List.filter_append]; simp only [List.filter_cons, List.filter_nil, h2, decide_true, if_true]
theorem highs_no {out : List Int} {x : Int} {j : Nat} (h : j < out.length) (h2 : ¬ x < out.getD j 0) : highs out x (j + 1) = highs out x j := by
  unfold highs; rw [take_one h, List.filter_append]; simp only [List.filter_cons, List.filter_nil, h2, decide_false, Bool.false_eq_true, if_false, List.append_nil]
theorem lows_len (out : List Int) (x : Int) (j : Nat) : (lows out x j).length ≤ j := by
  unfold lows; exact Nat.le_trans (List.length_filter_le _ _) (List.length_take_le _ _)
theorem highs_len (out : List Int) (x : Int) (j : Nat) : (highs out x j).length ≤ j := by
  unfold highs; exact Nat.le_trans (List.length_filter_le _ _) (List.length_take_le _ _)
theorem ins_all {out : List Int} {x : Int} (h : hasB out x = false) : ins out x = (lows out x out.length ++ [x]) ++ highs out x out.length := by
  rw [ins_no h]; unfold lows highs; simp

theorem lows_zero (out : List Int) (x : Int) : lows out x 0 = [] := by simp [lows]
theorem highs_zero (out : List Int) (x : Int) : highs out x 0 = [] := by simp [highs]
theorem own_new (w : World) : Own w.heap.size (w.alloc (.cells #[] 3)) (.slice (some ⟨w.heap.size, 0, none⟩) 0 0) [] :=
  ⟨w.heap.size, 0, rfl, Nat.le_refl _, by simp, Nat.le_refl _, by unfold maxLen; omega, World.ownsRow_made _ #[] 0 (Nat.le_refl _) (by unfold maxLen; omega) rfl⟩

theorem news1 (w : World) (x : Value) (t : TypeId) : ∀ j u, ([x] : List Value)[j]? = some u → (w.alloc (.cells #[x] t)).cell? ((⟨w.heap.size, 0, none⟩ : Addr).add j) = some u := by
  intro j u hj
  match j, hj with
  | 0, hj => simp at hj; subst hj; simp [Addr.add]
theorem one_cell (k : IntKind) (n : Int) : ∀ u ∈ ([.int k n] : List Value), u.oneCell' = true := by
  intro u hu; simp at hu; subst hu; rfl

set_option maxHeartbeats 1600000 in
theorem refSorted_any (zs : List Int) (v : Value) (w : World) (hv : Ints w v zs) (hz : zs.length ≤ 1000000) :
    Calls Tryd.prog 18 #[v] w (GotInts w.heap.size w (insR zs)) := by
  obtain ⟨i0, hi, hz0, hz1, hz2⟩ := info_parts infoInt
  obtain ⟨a, cap, rfl, h1, h2, h3⟩ := hv
  unfold maxLen at h2
  obtain ⟨n, hn⟩ : ∃ n, n = zs.length := ⟨_, rfl⟩
  rw [← hn] at h1 hz ⊢
  have HN := Lib.hid hn
  have HC := Lib.hid h3
  clear h3 hn
  go_enter Tryd.func18, Tryd.ntmps18
  go_wp2
  go_loopw [3, 4] (fun v i wr => ∃ (k : Nat) (out : List Int), k ≤ n ∧ i = .int .i64 k ∧ out = insR (zs.take k) ∧ out.length ≤ k ∧ Own w.heap.size wr v out ∧ Below w.heap.size w wr) (fun _ i _ => n - (intOf i).toNat)
  case atStart => exact ⟨0, [], Nat.zero_le _, rfl, rfl, Nat.le_refl _, ⟨w.heap.size, 0, rfl, Nat.le_refl _, by simp, Nat.le_refl _, by unfold maxLen; omega, World.ownsRow_made _ #[] 0 (Nat.le_refl _) (by unfold maxLen; omega) rfl⟩, (Below.refl _ _).alloc (Nat.le_refl _) _⟩
  case round =>
    obtain ⟨k, out, hk, rfl, hout, hlen, hown, hb⟩ := hrel
    obtain ⟨wo, rfl⟩ : ∃ wo : World, wo = wr := ⟨_, rfl⟩
    have HO := Lib.hid hout
    have HI := Lib.hid hown.ints
    have HW := Lib.hid hown
    obtain ⟨g, cp, rfl, hg1, hg2, hg3, hg4, hrow⟩ := hown
    have HB := Lib.hid hb
    have hbs := hb.size
    unfold maxLen at hg4
    obtain ⟨m, hm⟩ : ∃ m, m = out.length := ⟨_, rfl⟩
    rw [← hm] at HI HW hrow hlen hg3 ⊢
    have HM := Lib.hid hm
    have HR := Lib.hid hrow
    clear hout hb hrow hm
    by_cases h4 : k < n
    · have h5 := h4
      rw [HN.out] at h5
      obtain ⟨b, off, rfl, hlt, hc⟩ := HC.out (by omega)
      have hck : wo.cell? ⟨b, off + k, none⟩ = some (.int .i64 (zs.getD k 0)) := (HB.out.cell (p := ⟨b, off + k, none⟩) hlt).trans (hc k h5)
      have hts := take_one h5
      obtain ⟨x, hx⟩ : ∃ x, x = zs.getD k 0 := ⟨_, rfl⟩
      rw [← hx] at hck hts
      have hnext : insR (zs.take (k + 1)) = ins out x := by rw [hts, insR_snoc, ← HO.out]
      have HX := Lib.hid hnext
      have HK := Lib.hid hck
      clear hc hx h5 hts hnext
      cases hhas : hasB out x with
      | true =>
        have HH := Lib.hid hhas
        have hcall := refHas_any out (.slice (some ⟨g, 0, none⟩) m cp) x wo HI.out
        rw [hhas] at hcall
        have HF := Lib.hid hcall
        clear hhas hcall
        go_wp2_with fail
        go_at_call 20; refine HF.out.mono ?_; rintro e w' ⟨rfl, rfl⟩
        go_wp2_with fail
        go_roundw
        case rel => exact ⟨k + 1, out, by omega, by go_num, by rw [HX.out, ins_yes HH.out], by have := HM.out; omega, HM.out ▸ HW.out, HB.out⟩
        case measure => simp [intOf]; omega
      | false =>
        have HH := Lib.hid hhas
        have hcall := refHas_any out (.slice (some ⟨g, 0, none⟩) m cp) x wo HI.out
        rw [hhas] at hcall
        have HF := Lib.hid hcall
        clear hhas hcall
        go_wp2_with fail
        go_at_call 20; refine HF.out.mono ?_; rintro e w' ⟨rfl, rfl⟩
        go_wp2_with fail
        go_loopw [5, 6] (fun v i wi => ∃ j : Nat, j ≤ m ∧ i = .int .i64 j ∧ Own wo.heap.size wi v (lows out x j) ∧ Below wo.heap.size wo wi) (fun _ i _ => m - (intOf i).toNat)
        case atStart => exact ⟨0, Nat.zero_le _, rfl, by rw [lows_zero]; exact own_new _, (Below.refl _ _).alloc (Nat.le_refl _) _⟩
        case round =>
          obtain ⟨j, hj, rfl, hown2, hb2⟩ := hrel
          obtain ⟨wi, rfl⟩ : ∃ wi : World, wi = wr := ⟨_, rfl⟩
          have HW2 := Lib.hid hown2
          obtain ⟨g2, cp2, rfl, hh1, hh2, hh3, hh4, hrow2⟩ := hown2
          obtain ⟨q, hq⟩ : ∃ q, q = (lows out x j).length := ⟨_, rfl⟩
          have hql := lows_len out x j
          rw [← hq] at HW2 hrow2 hh3 hql ⊢
          have HQ := Lib.hid hq
          have HR2 := Lib.hid hrow2
          have HB2 := Lib.hid hb2
          have hbs2 := hb2.size
          unfold maxLen at hh4
          have hxk : wi.cell? ⟨b, off + k, none⟩ = some (.int .i64 x) := (HB2.out.cell (p := ⟨b, off + k, none⟩) (Nat.lt_of_lt_of_le hlt hbs)).trans HK.out
          clear hq hrow2 hb2
          by_cases h6 : j < m
          · have hcj : wi.cell? ⟨g, j, none⟩ = some (.int .i64 (out.getD j 0)) := (HB2.out.cell (p := ⟨g, j, none⟩) hg2).trans (own_cell HR.out HM.out j h6)
            have h6' := h6
            rw [HM.out] at h6'
            have HL := Lib.hid (lows_yes (x := x) h6')
            have HN2 := Lib.hid (lows_no (x := x) h6')
            obtain ⟨y, hy⟩ : ∃ y, y = out.getD j 0 := ⟨_, rfl⟩
            rw [← hy] at hcj HL HN2
            clear h6' hy
            by_cases hyx : y < x
            · have HY := Lib.hid (HL.out hyx)
              clear HL HN2
              go_wp2
              go_quiet (fail)
              go_wp2_with (at_builtin; refine wpList_append_own _ rfl (.tmp 37) (.tmp 42) 27 rfl wo.heap.size 3 i0 (.int .i64 0) 1 8 Tryd.underlying27 hi hz0 hz1 hz2 rfl (by decide) _ _ _ rfl (World.ownsRow.alloc (show (wi.drewN nq).ownsRow wo.heap.size 3 1 (.slice (some ⟨g2, 0, none⟩) q cp2) q ((lows out x j).map (Value.int .i64)) from HR2.out) _) ⟨wi.heap.size, 0, none⟩ 1 1 [.int .i64 y] rfl rfl (news1 (wi.drewN nq) _ _) (one_cell _ _) (by unfold maxLen; omega) (by omega) (by simp; omega) ?_)
              intro v' w1 hown' hgrow _
              have hb' : Below wo.heap.size wo w1 := ((below_drewN HB2.out nq).alloc hbs2 _).grown hgrow (by simp; omega) (fun k hk => by cases hk; exact hh1)
              rw [map_snoc, ← HY.out] at hown'
              have HG := Lib.hid (own_of hown' (by rw [HY.out]; simp [HQ.out]) rfl (by omega))
              have HB' := Lib.hid hb'
              clear hgrow hown' hb'
              go_wp2
              go_roundw
              case rel => exact ⟨j + 1, by omega, by go_num, HG.out, HB'.out⟩
              case measure => simp [intOf]; omega
            · have HY := Lib.hid (HN2.out hyx)
              clear HL HN2
              go_wp2
              go_quiet (fail)
              go_wp2
              go_roundw
              case rel => exact ⟨j + 1, by omega, by go_num, by rw [HY.out]; exact HQ.out ▸ HW2.out, below_drewN HB2.out nq⟩
              case measure => simp [intOf]; omega
          · have hjm : m ≤ j := by omega
            have HJ := Lib.hid (show j = m by omega)
            have c1 : decide ((j : Int) < (m : Int)) = false := by simp; omega
            go_wp2_with (at_builtin; refine wpList_append_own _ rfl (.tmp 44) (.tmp 49) 27 rfl wo.heap.size 3 i0 (.int .i64 0) 1 8 Tryd.underlying27 hi hz0 hz1 hz2 rfl (by decide) _ _ _ rfl (World.ownsRow.alloc (show wi.ownsRow wo.heap.size 3 1 (.slice (some ⟨g2, 0, none⟩) q cp2) q ((lows out x j).map (Value.int .i64)) from HR2.out) _) ⟨wi.heap.size, 0, none⟩ 1 1 [.int .i64 x] rfl rfl (news1 wi _ _) (one_cell _ _) (by unfold maxLen; omega) (by omega) (by simp; omega) ?_)
            intro v' w1 hown' hgrow _
            have hb' : Below wo.heap.size wo w1 := (HB2.out.alloc hbs2 _).grown hgrow (by simp; omega) (fun k hk => by cases hk; exact hh1)
            rw [map_snoc] at hown'
            have HG := Lib.hid (own_of hown' (by simp [HQ.out]) rfl (by omega))
            rw [HJ.out] at HG
            have HB' := Lib.hid hb'
            clear hgrow hown' hb' c1 hxk hh1 hh2 hh3 hh4 hbs2
            go_wp2
            go_loopw [5, 7] (fun v i wr => ∃ t : Nat, t ≤ m ∧ i = .int .i64 t ∧ Own wo.heap.size wr v (lows out x m ++ [x] ++ highs out x t) ∧ Below wo.heap.size wo wr) (fun _ i _ => m - (intOf i).toNat)
            case atStart => exact ⟨0, Nat.zero_le _, rfl, by rw [highs_zero, List.append_nil]; exact HG.out, HB'.out⟩
            case round =>
              clear HG HB' HR2 HB2 HW2 HQ
              obtain ⟨t, ht, rfl, hown3, hb3⟩ := hrel
              obtain ⟨wi, rfl⟩ : ∃ wi : World, wi = wr := ⟨_, rfl⟩
              have HW3 := Lib.hid hown3
              obtain ⟨g3, cp3, rfl, hh1, hh2, hh3, hh4, hrow3⟩ := hown3
              obtain ⟨q3, hq3⟩ : ∃ q3, q3 = (lows out x m ++ [x] ++ highs out x t).length := ⟨_, rfl⟩
              have hq3l : (lows out x m ++ [x] ++ highs out x t).length ≤ m + 1 + t := by
                have a1 := lows_len out x m; have a2 := highs_len out x t
                simp only [List.length_append, List.length_cons, List.length_nil]; omega
              rw [← hq3] at HW3 hrow3 hh3 hq3l ⊢
              have HQ := Lib.hid hq3
              have HR3 := Lib.hid hrow3
              have HB3 := Lib.hid hb3
              have hbs3 := hb3.size
              unfold maxLen at hh4
              have hxk : wi.cell? ⟨b, off + k, none⟩ = some (.int .i64 x) := (HB3.out.cell (p := ⟨b, off + k, none⟩) (Nat.lt_of_lt_of_le hlt hbs)).trans HK.out
              clear hq3 hrow3 hb3
              by_cases h7 : t < m
              · have hct : wi.cell? ⟨g, t, none⟩ = some (.int .i64 (out.getD t 0)) := (HB3.out.cell (p := ⟨g, t, none⟩) hg2).trans (own_cell HR.out HM.out t h7)
                have h7' := h7
                rw [HM.out] at h7'
                have HL := Lib.hid (highs_yes (x := x) h7')
                have HN2 := Lib.hid (highs_no (x := x) h7')
                obtain ⟨y, hy⟩ : ∃ y, y = out.getD t 0 := ⟨_, rfl⟩
                rw [← hy] at hct HL HN2
                clear h7' hy
                by_cases hyx : x < y
                · have HY := Lib.hid (HL.out hyx)
                  clear HL HN2
                  go_wp2
                  go_quiet (fail)
                  go_wp2_with (at_builtin; refine wpList_append_own _ rfl (.tmp 66) (.tmp 71) 27 rfl wo.heap.size 3 i0 (.int .i64 0) 1 8 Tryd.underlying27 hi hz0 hz1 hz2 rfl (by decide) _ _ _ rfl (World.ownsRow.alloc (show (wi.drewN nq).ownsRow wo.heap.size 3 1 (.slice (some ⟨g3, 0, none⟩) q3 cp3) q3 ((lows out x m ++ [x] ++ highs out x t).map (Value.int .i64)) from HR3.out) _) ⟨wi.heap.size, 0, none⟩ 1 1 [.int .i64 y] rfl rfl (news1 (wi.drewN nq) _ _) (one_cell _ _) (by unfold maxLen; omega) (by omega) (by simp; omega) ?_)
                  intro v' w1 hown' hgrow _
                  have hb' : Below wo.heap.size wo w1 := ((below_drewN HB3.out nq).alloc hbs3 _).grown hgrow (by simp; omega) (fun k hk => by cases hk; exact hh1)
                  have HG := Lib.hid (own_of (zs := lows out x m ++ [x] ++ highs out x (t + 1)) hown' (by rw [HY.out, HQ.out]; simp; omega) (by rw [HY.out]; simp) (by omega))
                  have HB' := Lib.hid hb'
                  clear hgrow hown' hb'
                  go_wp2
                  go_roundw
                  case rel => exact ⟨t + 1, by omega, by go_num, HG.out, HB'.out⟩
                  case measure => simp [intOf]; omega
                · have HY := Lib.hid (HN2.out hyx)
                  clear HL HN2
                  go_wp2
                  go_quiet (fail)
                  go_wp2
                  go_roundw
                  case rel => exact ⟨t + 1, by omega, by go_num, by rw [HY.out]; exact HQ.out ▸ HW3.out, below_drewN HB3.out nq⟩
                  case measure => simp [intOf]; omega
              · have HT := Lib.hid (show t = m by omega)
                have c1 : decide ((t : Int) < (m : Int)) = false := by simp; omega
                have HI2 := Lib.hid (ins_all HH.out)
                rw [← HM.out] at HI2
                rw [HT.out, ← HI2.out] at HW3
                have HE := Lib.hid (show q3 = (ins out x).length by rw [HI2.out, HQ.out, HT.out])
                have hil := ins_len out x
                have HIL := Lib.hid hil
                clear hil hxk
                go_wp2
                go_roundw
                case rel => exact ⟨k + 1, ins out x, by omega, by go_num, HX.out.symm, by have := HM.out; have := HIL.out; omega, HE.out ▸ HW3.out.mono hbs, HB.out.trans (HB3.out.mono hbs)⟩
                case measure => simp [intOf]; omega
    · have HE := Lib.hid (show insR zs = out by rw [HO.out, List.take_of_length_le (by rw [← HN.out]; omega)])
      have c1 : decide ((k : Int) < (n : Int)) = false := by simp; omega
      go_wp2
      go_ret
      exact ⟨_, rfl, by rw [HE.out]; exact HI.out, HB.out⟩
end Go.Proofs.YtjmiclgagjkooaaDoor.lits
