/- The walks of the document's Text and Read. -/
import Derived.Test.YtmbmpghfidcnhaaDoorX2
namespace Go.Proofs.YtmbmpghfidcnhaaDoor.tri
open Go.RowKit Go.PlainAid
open Go.Proofs.YtmbmpghfidcnhaaDoor.fns Go.Proofs.YtmbmpghfidcnhaaDoor.ints

theorem refvalue_q {a x : Int} (h : tv a = x) (w : World) : Calls Tryd.prog 15 #[.int .i64 a] w fun e w' => e = .returned (.int .i64 x) ∧ w' = w :=
  (refvalue_of h w).mono fun _ _ ⟨h1, h2⟩ => ⟨h1, h2.symm⟩

theorem snoc3 (l : List UInt8) (b : UInt8) (t : ByteArray) (h : t = ⟨#[b]⟩) : Value.string (⟨l.toArray⟩ ++ t) = .string ⟨(l ++ [b]).toArray⟩ := by
  rw [h, str_snoc]

set_option maxHeartbeats 800000 in
theorem refText_any (ls : List Int) (v : Value) (w : World) (hv : Ints w v ls) (hm : ls.length ≤ 2000) :
    Calls Tryd.prog 9 #[v] w fun e w' => e = .returned (.string (signs ls)) ∧ Below w.heap.size w w' := by
  obtain ⟨a, cap, rfl, hc1, hc2, hcell⟩ := hv
  unfold maxLen at hc2
  obtain ⟨n, hn⟩ : ∃ n, n = ls.length := ⟨_, rfl⟩
  rw [← hn]
  have HN := Lib.hid hn
  have HC := Lib.hid hcell
  have hn1 : n ≤ 2000 := by omega
  have hn2 : n ≤ cap := by omega
  clear hcell hn hm hc1
  go_enter Tryd.func9, Tryd.ntmps9
  go_wp2
  go_loopw [3, 4] (fun t i wr => ∃ (k d : Nat) (l : List UInt8), k ≤ n ∧ i = .int .i64 k ∧ Hid (l.length = k) ∧ Hid (l = (ls.take k).map sg) ∧ t = .string ⟨l.toArray⟩ ∧ Hid (wr = w.drewN d)) (fun _ i _ => n - (intOf i).toNat)
  case atStart => exact ⟨0, 0, [], Nat.zero_le _, rfl, Lib.hid rfl, Lib.hid (by simp), rfl, Lib.hid (by simp [World.drewN_zero])⟩
  case round =>
    obtain ⟨k, d, l, hk, rfl, HK, HL, rfl, HW⟩ := hrel
    have hl1 : l.length ≤ k := by have := HK.out; omega
    by_cases h1 : k < n
    · have h1' := h1
      rw [HN.out] at h1'
      obtain ⟨b, off, rfl, hbs, hcs⟩ := HC.out (by omega)
      have hc : wr.cell? ⟨b, off + k, none⟩ = some (.int .i64 (ls.getD k 0)) := by rw [HW.out]; exact hcs k h1'
      have hts : ls.take (k + 1) = ls.take k ++ [ls.getD k 0] := by
        rw [List.take_succ_eq_append_getElem h1']; simp [List.getD, h1']
      obtain ⟨y, hy⟩ : ∃ y, y = ls.getD k 0 := ⟨_, rfl⟩
      rw [← hy] at hc hts
      have HT := Lib.hid hts
      have hki : (k : Int) < (n : Int) := by omega
      clear hcs h1' hts hy
      rcases tv_cases y with hy | hy | hy
      · have HY := Lib.hid hy
        have HE := Lib.hid (sg_zero HY.out)
        clear hy
        go_wp2
        go_quiet ((go_at_call 15; exact Calls.quiet_of_same (refvalue_q HY.out _)))
        go_wp2
        refine ⟨⟨k + 1, d + nq, l ++ [48], by omega, by go_num, Lib.hid (by simp [HK.out]), Lib.hid (by rw [HT.out, List.map_append, ← HL.out, List.map_cons, HE.out]; rfl), snoc3 _ _ _ (by decide), Lib.hid (by rw [HW.out]; simp [World.drewN, Nat.add_assoc])⟩, by simp [intOf]; omega⟩
      · have HY := Lib.hid hy
        have HE := Lib.hid (sg_one HY.out)
        clear hy
        go_wp2
        go_quiet ((go_at_call 15; exact Calls.quiet_of_same (refvalue_q HY.out _)))
        go_wp2
        refine ⟨⟨k + 1, d + nq, l ++ [49], by omega, by go_num, Lib.hid (by simp [HK.out]), Lib.hid (by rw [HT.out, List.map_append, ← HL.out, List.map_cons, HE.out]; rfl), snoc3 _ _ _ (by decide), Lib.hid (by rw [HW.out]; simp [World.drewN, Nat.add_assoc])⟩, by simp [intOf]; omega⟩
      · have HY := Lib.hid hy
        have HE := Lib.hid (sg_two HY.out)
        clear hy
        go_wp2
        go_quiet ((go_at_call 15; exact Calls.quiet_of_same (refvalue_q HY.out _)))
        go_wp2
        refine ⟨⟨k + 1, d + nq, l ++ [120], by omega, by go_num, Lib.hid (by simp [HK.out]), Lib.hid (by rw [HT.out, List.map_append, ← HL.out, List.map_cons, HE.out]; rfl), snoc3 _ _ _ (by decide), Lib.hid (by rw [HW.out]; simp [World.drewN, Nat.add_assoc])⟩, by simp [intOf]; omega⟩
    · go_wp2
      go_ret
      have e : l = ls.map sg := by rw [HL.out, List.take_of_length_le (by rw [← HN.out]; omega)]
      refine ⟨by rw [e]; rfl, ?_⟩
      rw [HW.out]
      exact below_drewN (Below.refl _ _) _

/-- the value found among the first m signs -/
def vAt (b : Int) (m : Nat) : Int := if b = 48 ∧ 0 < m then 0 else if b = 49 ∧ 1 < m then 1 else if b = 120 ∧ 2 < m then 2 else -1
theorem vAt_zero (b : Int) : vAt b 0 = -1 := by unfold vAt; rw [if_neg (by omega), if_neg (by omega), if_neg (by omega)]
theorem vAt_three (b : Int) : vAt b 3 = sv b := by unfold vAt sv; simp
theorem vAt_hit {b : Int} {m : Nat} (h : (m = 0 ∧ b = 48) ∨ (m = 1 ∧ b = 49) ∨ (m = 2 ∧ b = 120)) : vAt b (m + 1) = m := by
  rcases h with ⟨rfl, rfl⟩ | ⟨rfl, rfl⟩ | ⟨rfl, rfl⟩ <;> rfl
theorem vAt_miss0 {b : Int} (h : b ≠ 48) : vAt b 1 = vAt b 0 := by unfold vAt; rw [if_neg (by omega), if_neg (by omega), if_neg (by omega), if_neg (by omega), if_neg (by omega), if_neg (by omega)]
theorem vAt_miss1 {b : Int} (h : b ≠ 49) : vAt b 2 = vAt b 1 := by
  unfold vAt
  by_cases h0 : b = 48
  · rw [if_pos ⟨h0, by omega⟩, if_pos ⟨h0, by omega⟩]
  · rw [if_neg (by omega), if_neg (by omega), if_neg (by omega), if_neg (by omega), if_neg (by omega), if_neg (by omega)]
theorem vAt_miss2 {b : Int} (h : b ≠ 120) : vAt b 3 = vAt b 2 := by
  unfold vAt
  by_cases h0 : b = 48
  · rw [if_pos ⟨h0, by omega⟩, if_pos ⟨h0, by omega⟩]
  · by_cases h1 : b = 49
    · rw [if_neg (by omega), if_pos ⟨h1, by omega⟩, if_neg (by omega), if_pos ⟨h1, by omega⟩]
    · rw [if_neg (by omega), if_neg (by omega), if_neg (by omega), if_neg (by omega), if_neg (by omega), if_neg (by omega)]
theorem map_snoc (l : List Int) (y : Int) : l.map (Value.int .i64) ++ [Value.int .i64 y] = (l ++ [y]).map (Value.int .i64) := by simp

set_option maxHeartbeats 1600000 in
theorem refRead_any (s : ByteArray) (w : World) (hm : s.size ≤ 2000) :
    Calls Tryd.prog 6 #[.string s] w (GotVals w (valsR s)) := by
  obtain ⟨i0, hi, hz0, hz1, hz2⟩ := info_parts infoInt
  have hgb := get_bt s
  go_enter Tryd.func6, Tryd.ntmps6
  go_wp2
  go_loopw [4, 5] (fun v i wr => ∃ k : Nat, k ≤ s.size ∧ i = .int .i64 k ∧ Hid (good3 s k) ∧ wr.ownsRow w.heap.size 3 1 v k ((valsTo s k).map (Value.int .i64)) ∧ Below w.heap.size w wr) (fun _ i _ => s.size - (intOf i).toNat)
  case atStart => exact ⟨0, Nat.zero_le _, rfl, Lib.hid fun i hi => by omega, World.ownsRow_made _ #[] 0 (Nat.le_refl _) (by unfold maxLen; omega) rfl, (Below.refl _ _).alloc (Nat.le_refl _) _⟩
  case round =>
    obtain ⟨k, hk, rfl, HG, hown, hb⟩ := hrel
    have HB := Lib.hid hb
    have HO := Lib.hid hown
    clear hown hb
    by_cases h1 : k < s.size
    · have q0 := bt_nonneg s k
      have q1 := bt_le s k
      have hki : (k : Int) < (s.size : Int) := by omega
      obtain ⟨wo, rfl⟩ : ∃ x, x = wr := ⟨_, rfl⟩
      go_wp2
      go_loopw [6, 7] (fun v6 j w2 => ∃ (m d : Nat) (x : Int), m ≤ 3 ∧ j = .int .i64 m ∧ v6 = .int .i64 x ∧ Hid (x = vAt (bt s k) m) ∧ Hid (w2 = wo.drewN d)) (fun _ j _ => 3 - (intOf j).toNat)
      case atStart => exact ⟨0, 0, -1, by omega, rfl, rfl, Lib.hid (vAt_zero _).symm, Lib.hid (by simp [World.drewN_zero])⟩
      case round =>
        obtain ⟨m, d, x, hm3, rfl, rfl, HX, HW⟩ := hrel
        have h4 : m = 0 ∨ m = 1 ∨ m = 2 ∨ m = 3 := by omega
        rcases h4 with rfl | rfl | rfl | rfl
        · by_cases e : bt s k = 48
          · have c1 : (bt s k == ((((⟨#[48, 49, 120]⟩ : ByteArray)[0]'(by decide)).toNat : Nat) : Int)) = true := by show (bt s k == 48) = true; simp [e]
            have HV := Lib.hid (vAt_hit (b := bt s k) (m := 0) (by simp [e]))
            clear e
            go_wp2
            go_quiet (fail)
            go_wp2
            refine ⟨⟨1, d + nq, 0, by omega, rfl, rfl, Lib.hid HV.out.symm, Lib.hid (by rw [HW.out]; simp [World.drewN, Nat.add_assoc])⟩, by simp [intOf]⟩
          · have c1 : (bt s k == ((((⟨#[48, 49, 120]⟩ : ByteArray)[0]'(by decide)).toNat : Nat) : Int)) = false := by show (bt s k == 48) = false; simp [e]
            have HV := Lib.hid (vAt_miss0 e)
            clear e
            go_wp2
            go_quiet (fail)
            go_wp2
            refine ⟨⟨1, d + nq, x, by omega, rfl, rfl, Lib.hid (by rw [HX.out]; exact HV.out.symm), Lib.hid (by rw [HW.out]; simp [World.drewN, Nat.add_assoc])⟩, by simp [intOf]⟩
        · by_cases e : bt s k = 49
          · have c1 : (bt s k == ((((⟨#[48, 49, 120]⟩ : ByteArray)[1]'(by decide)).toNat : Nat) : Int)) = true := by show (bt s k == 49) = true; simp [e]
            have HV := Lib.hid (vAt_hit (b := bt s k) (m := 1) (by simp [e]))
            clear e
            go_wp2
            go_quiet (fail)
            go_wp2
            refine ⟨⟨2, d + nq, 1, by omega, rfl, rfl, Lib.hid HV.out.symm, Lib.hid (by rw [HW.out]; simp [World.drewN, Nat.add_assoc])⟩, by simp [intOf]⟩
          · have c1 : (bt s k == ((((⟨#[48, 49, 120]⟩ : ByteArray)[1]'(by decide)).toNat : Nat) : Int)) = false := by show (bt s k == 49) = false; simp [e]
            have HV := Lib.hid (vAt_miss1 e)
            clear e
            go_wp2
            go_quiet (fail)
            go_wp2
            refine ⟨⟨2, d + nq, x, by omega, rfl, rfl, Lib.hid (by rw [HX.out]; exact HV.out.symm), Lib.hid (by rw [HW.out]; simp [World.drewN, Nat.add_assoc])⟩, by simp [intOf]⟩
        · by_cases e : bt s k = 120
          · have c1 : (bt s k == ((((⟨#[48, 49, 120]⟩ : ByteArray)[2]'(by decide)).toNat : Nat) : Int)) = true := by show (bt s k == 120) = true; simp [e]
            have HV := Lib.hid (vAt_hit (b := bt s k) (m := 2) (by simp [e]))
            clear e
            go_wp2
            go_quiet (fail)
            go_wp2
            refine ⟨⟨3, d + nq, 2, by omega, rfl, rfl, Lib.hid HV.out.symm, Lib.hid (by rw [HW.out]; simp [World.drewN, Nat.add_assoc])⟩, by simp [intOf]⟩
          · have c1 : (bt s k == ((((⟨#[48, 49, 120]⟩ : ByteArray)[2]'(by decide)).toNat : Nat) : Int)) = false := by show (bt s k == 120) = false; simp [e]
            have HV := Lib.hid (vAt_miss2 e)
            clear e
            go_wp2
            go_quiet (fail)
            go_wp2
            refine ⟨⟨3, d + nq, x, by omega, rfl, rfl, Lib.hid (by rw [HX.out]; exact HV.out.symm), Lib.hid (by rw [HW.out]; simp [World.drewN, Nat.add_assoc])⟩, by simp [intOf]⟩
        · have e3 : x = sv (bt s k) := by rw [HX.out, vAt_three]
          have HX3 := Lib.hid e3
          clear e3 HX
          have hbw : Below w.heap.size w wr := by rw [HW.out]; exact below_drewN HB.out d
          have hown : wr.ownsRow w.heap.size 3 1 u4 k ((valsTo s k).map (Value.int .i64)) := by rw [HW.out]; exact HO.out
          have HBW := Lib.hid hbw
          have hbs := hbw.size
          clear hbw
          by_cases hs : 0 ≤ x
          · have HG2 := Lib.hid (good_step HG.out (HX3.out ▸ hs))
            have c1 : decide (x < 0) = false := by simp; omega
            go_wp2_with (at_builtin; refine wpList_append_own _ rfl (.tmp 28) (.tmp 30) 22 rfl w.heap.size 3 i0 (.int .i64 0) 1 8 Tryd.underlying22 hi hz0 hz1 hz2 rfl (by decide) _ _ _ rfl (hown.alloc _) ⟨wr.heap.size, 0, none⟩ 1 1 [.int .i64 x] rfl rfl (by intro j u hj; match j, hj with | 0, hj => simp at hj; subst hj; simp [Addr.add]) (by intro u hu; simp at hu; subst hu; rfl) (by unfold maxLen; omega) (by omega) (by simp; omega) ?_)
            intro v' w1 hown' hgrow _
            have hb' : Below w.heap.size w w1 := (HBW.out.alloc hbs _).grown hgrow (by simp; omega) (fun k hk => (hown.lt k hk).1)
            rw [map_snoc, HX3.out, ← valsTo_succ] at hown'
            have HO1 := Lib.hid hown'
            have HB1 := Lib.hid hb'
            clear hgrow hown hown' hb'
            go_wp2
            go_roundw
            case rel => exact ⟨k + 1, by omega, by go_num, HG2, HO1.out, HB1.out⟩
            case measure => simp [intOf]; omega
          · have HR := Lib.hid (valsR_bad h1 (by rw [← HX3.out]; have := sv_bd (bt s k); rw [← HX3.out] at this; omega))
            have c1 : decide (x < 0) = true := by simp; omega
            clear hs hown
            go_wp2
            go_ret2
            exact ⟨.slice none 0 0, two_ret HR.out, by rw [HR.out]; exact ints_empty _ _ _ (by unfold maxLen; omega), HBW.out⟩
    · have HK : Hid (k = s.size) := Lib.hid (by omega)
      have c1 : decide ((k : Int) < (s.size : Int)) = false := by simp; omega
      have HR := Lib.hid (valsR_good (HK.out ▸ HG.out))
      go_wp2
      go_ret2
      refine ⟨_, two_ret HR.out, ?_, HB.out⟩
      have hown := HO.out
      rw [HK.out] at hown
      rw [HR.out]
      exact ints_of_owned (B := w.heap.size) (by rw [valsTo_len]; exact hown)
end Go.Proofs.YtmbmpghfidcnhaaDoor.tri
