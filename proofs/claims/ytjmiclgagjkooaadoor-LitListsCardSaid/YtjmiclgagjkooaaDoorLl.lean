/- The walk of the statement on lists of numbers. -/
import Derived.Test.YtjmiclgagjkooaaDoorT
import Derived.Test.YtjmiclgagjkooaaDoorTl
import Derived.Laws.AppendOwnNone
namespace Go.Proofs.YtjmiclgagjkooaaDoor.lits
open Go.RowKit
open Go.Proofs.YtjmiclgagjkooaaDoor.fns
open Go.Proofs.YtjmiclgagjkooaaDoor.oct

theorem ints_ones (ls : List Int) : ∀ u ∈ ls.map (Value.int .i64), u.oneCell' = true := ints_oneCell _ ls
theorem news_of {w w' : World} {ad : Addr} {n cap : Nat} {ls : List Int} (h : Ints w (.slice (some ad) n cap) ls) (hb : Below w.heap.size w w') :
    ∀ (j : Nat) (u : Value), (ls.map (Value.int .i64))[j]? = some u → w'.cell? (ad.add j) = some u := by
  intro j u hj
  obtain ⟨a, cap', hv, h1, h2, h3⟩ := h
  obtain ⟨rfl, -⟩ := Value.slice.inj hv
  have hl := (List.getElem?_eq_some_iff.1 hj).1
  rw [List.length_map] at hl
  obtain ⟨b, off, ha, hlt, hc⟩ := h3 (by omega)
  obtain rfl := Option.some.inj ha
  have e : (⟨b, off, none⟩ : Addr).add j = ⟨b, off + j, none⟩ := by unfold Addr.add; split <;> simp_all
  rw [e, (hb.cell (p := ⟨b, off + j, none⟩) hlt), hc j hl]
  rw [List.getElem?_map, List.getElem?_eq_getElem hl] at hj
  simp only [Option.map_some, Option.some.injEq] at hj
  rw [← hj]
  simp [List.getD, hl]
theorem ints_take {w : World} {a : Option Addr} {n cap k : Nat} {ls : List Int} (h : Ints w (.slice a n cap) ls) (hk : k ≤ n) : Ints w (.slice a k cap) (ls.take k) := by
  obtain ⟨a', cap', hv, h1, h2, h3⟩ := h
  obtain ⟨rfl, e1, rfl⟩ := Value.slice.inj hv
  have hl : (ls.take k).length = k := by rw [List.length_take]; omega
  refine ⟨a, cap, by rw [hl], by omega, h2, fun hp => ?_⟩
  obtain ⟨b, off, ha, hlt, hc⟩ := h3 (by omega)
  refine ⟨b, off, ha, hlt, fun i hi => ?_⟩
  rw [hl] at hi
  rw [hc i (by omega)]
  simp [List.getD, hi]
theorem ints_len_of {w : World} {a : Option Addr} {n cap : Nat} {ls : List Int} (h : Ints w (.slice a n cap) ls) : ls.length = n ∧ n ≤ cap ∧ cap ≤ maxLen := by
  obtain ⟨a', cap', hv, h1, h2, -⟩ := h
  obtain ⟨-, e1, rfl⟩ := Value.slice.inj hv
  exact ⟨e1.symm, by omega, h2⟩
theorem refInts_same {xs ys : List Int} {v u : Value} {w : World} (h : xs = ys) (hv : Ints w v xs) (hu : Ints w u ys) :
    Calls Tryd.prog 16 #[v, u] w fun e w' => e = .returned (.bool true) ∧ Below w.heap.size w w' := by
  have := refInts_any xs ys v u w hv hu
  rw [show decide (xs = ys) = true by simpa using h] at this
  exact this

set_option maxHeartbeats 1600000 in
theorem lists_nil (cap : Nat) (x : Int) (w : World) (hc0 : cap = 0) (hT : Tab w) :
    Calls Tryd.prog 4 #[.slice none 0 cap, .int .i64 x] w fun e w' => e = .returned (.bool true) ∧ Below w.heap.size w w' := by
  subst hc0
  obtain ⟨i0, hi, hz0, hz1, hz2⟩ := info_parts infoInt
  obtain ⟨ls, hls⟩ : ∃ ls : List Int, ls = [] := ⟨_, rfl⟩
  have HV : Hid (Ints w (.slice none 0 0) ls) := Lib.hid (by rw [hls]; exact ints_empty _ _ _ (by unfold maxLen; omega))
  have HZ : Hid (ls.length * 8 ≤ 140737488355328) := Lib.hid (by rw [hls]; simp)
  have HZ2 : Hid (ls.length ≤ 1000000) := Lib.hid (by rw [hls]; simp)
  have HLS := Lib.hid hls
  clear hls
  go_enter Tryd.func4, Tryd.ntmps4
  have hmade : (w.alloc (.cells #[] 3)).ownsRow w.heap.size 3 1 (.slice (some ⟨w.heap.size, 0, none⟩) 0 0) 0 [] := World.ownsRow_made _ #[] 0 (Nat.le_refl _) (by unfold maxLen; omega) rfl
  go_wp2_with (at_builtin; refine wpList_append_own_none rfl (.tmp 11) (.tmp 12) 27 rfl w.heap.size 3 i0 1 Tryd.underlying27 hi _ _ _ rfl hmade rfl ?_)
  obtain ⟨v1, hv1⟩ : ∃ v1, v1 = Value.slice (some ⟨w.heap.size, 0, none⟩) 0 0 := ⟨_, rfl⟩
  obtain ⟨w1, hw1⟩ : ∃ w1, w1 = w.alloc (.cells #[] 3) := ⟨_, rfl⟩
  have HO : Hid (Ints w1 v1 ls) := Lib.hid (by rw [hv1, hw1, HLS.out]; exact ints_empty _ _ _ (by unfold maxLen; omega))
  have hb1 : Below w.heap.size w w1 := by rw [hw1]; exact (Below.refl _ w).alloc (Nat.le_refl _) _
  rw [← hv1, ← hw1]
  have B1 := Lib.hid hb1
  have S1 := Lib.hid hb1.size
  clear hmade hv1 hw1 hb1
  go_wp2_with fail
  go_at_call 17; refine (Sorted_any ls _ _ HO.out HZ.out).mono ?_; rintro e w2 ⟨v2, rfl, i2, b2⟩
  have I2 := Lib.hid i2
  have B2 := Lib.hid (B1.out.trans (b2.mono S1.out))
  have O2 := Lib.hid (HO.out.on b2)
  clear i2 b2
  go_wp2_with fail
  go_at_call 18; refine (refSorted_any ls _ _ (HV.out.on B2.out) HZ2.out).mono ?_; rintro e w3 ⟨v3, rfl, i3, b3⟩
  have I3 := Lib.hid i3
  have J3 := Lib.hid (I2.out.on b3)
  have B3 := Lib.hid (B2.out.trans (b3.mono B2.out.size))
  have O3 := Lib.hid (O2.out.on b3)
  clear i3 b3
  go_wp2_with fail
  go_at_call 16; refine (refInts_same (srt_ins ls) J3.out I3.out).mono ?_; rintro e w4 ⟨rfl, b4⟩
  have B4 := Lib.hid (B3.out.trans (b4.mono B3.out.size))
  have O4 := Lib.hid (O3.out.on b4)
  have HV4 := Lib.hid (HV.out.on B4.out)
  clear b4
  go_wp2_with fail
  go_at_call 19; refine (litHas_any ls _ _ _ O4.out).mono ?_; rintro e w' ⟨rfl, rfl⟩
  go_wp2_with fail
  go_at_call 20; refine (refHas_any ls _ _ _ HV4.out).mono ?_; rintro e w' ⟨rfl, rfl⟩
  go_wp2_with fail
  go_at_call 21; refine (Tied_any ls _ _ O4.out HZ.out).mono ?_; rintro e w5 ⟨rfl, b5⟩
  have B5 := Lib.hid (B4.out.trans (b5.mono B4.out.size))
  have O5 := Lib.hid (O4.out.on b5)
  have HV5 := Lib.hid (HV.out.on B5.out)
  clear b5
  go_wp2_with fail
  go_at_call 22; refine (refTied_any ls _ _ HV5.out).mono ?_; rintro e w' ⟨rfl, rfl⟩
  go_wp2_with fail
  go_at_call 16; refine (refInts_same rfl O5.out HV5.out).mono ?_; rintro e w6 ⟨rfl, b6⟩
  have B6 := Lib.hid (B5.out.trans (b6.mono B5.out.size))
  clear b6
  go_wp2_with fail
  go_at_call 15; refine (lives_any _ (hT.on B6.out)).mono ?_; rintro e w7 ⟨rfl, b7⟩
  go_wp2_with fail
  go_ret
  exact ⟨rfl, B6.out.trans (b7.mono B6.out.size)⟩

set_option maxHeartbeats 1600000 in
theorem lists_small (ad : Addr) (n cap : Nat) (l0 : List Int) (x : Int) (w : World) (hv : Ints w (.slice (some ad) n cap) l0) (h200 : n ≤ 200) (hT : Tab w) :
    Calls Tryd.prog 4 #[.slice (some ad) n cap, .int .i64 x] w fun e w' => e = .returned (.bool true) ∧ Below w.heap.size w w' := by
  obtain ⟨i0, hi, hz0, hz1, hz2⟩ := info_parts infoInt
  obtain ⟨-, hcap, hcm⟩ := ints_len_of hv
  obtain ⟨ls, rfl⟩ : ∃ ls : List Int, ls = l0 := ⟨_, rfl⟩
  have hv2 := hv
  have HV := Lib.hid hv2
  have hlen := (ints_len_of hv2).1
  have HL := Lib.hid hlen
  have HZ : Hid (ls.length * 8 ≤ 140737488355328) := Lib.hid (by omega)
  have HZ2 : Hid (ls.length ≤ 1000000) := Lib.hid (by omega)
  unfold maxLen at hcm
  clear hv2 hlen hv
  go_enter Tryd.func4, Tryd.ntmps4
  have hmade : (w.alloc (.cells #[] 3)).ownsRow w.heap.size 3 1 (.slice (some ⟨w.heap.size, 0, none⟩) 0 0) 0 [] := World.ownsRow_made _ #[] 0 (Nat.le_refl _) (by unfold maxLen; omega) rfl
  have HNW := Lib.hid (news_of HV.out ((Below.refl _ w).alloc (Nat.le_refl _) (.cells #[] 3)))
  go_wp2_with (at_builtin; refine wpList_append_own _ rfl (.tmp 11) (.tmp 12) 27 rfl w.heap.size 3 i0 (.int .i64 0) 1 8 Tryd.underlying27 hi hz0 hz1 hz2 rfl (by decide) _ _ _ rfl hmade ad n cap (ls.map (Value.int .i64)) rfl (by simp [HL.out]) HNW.out (ints_ones ls) (by unfold maxLen; omega) (by omega) (by simp) ?_)
  intro v1 w1 hown1 hgrow _
  have hb1 : Below w.heap.size w w1 := ((Below.refl _ w).alloc (Nat.le_refl _) _).grown hgrow (by simp) (fun k hk => (hmade.lt k hk).1)
  have HO : Hid (Ints w1 v1 ls) := Lib.hid (ints_of_owned (B := w.heap.size) (by rw [HL.out]; simpa using hown1))
  have B1 := Lib.hid hb1
  have S1 := Lib.hid hb1.size
  clear hgrow hmade hown1 hb1
  go_wp2_with fail
  go_at_call 17; refine (Sorted_any ls _ _ HO.out HZ.out).mono ?_; rintro e w2 ⟨v2, rfl, i2, b2⟩
  have I2 := Lib.hid i2
  have B2 := Lib.hid (B1.out.trans (b2.mono S1.out))
  have O2 := Lib.hid (HO.out.on b2)
  clear i2 b2
  go_wp2_with fail
  go_at_call 18; refine (refSorted_any ls _ _ (HV.out.on B2.out) HZ2.out).mono ?_; rintro e w3 ⟨v3, rfl, i3, b3⟩
  have I3 := Lib.hid i3
  have J3 := Lib.hid (I2.out.on b3)
  have B3 := Lib.hid (B2.out.trans (b3.mono B2.out.size))
  have O3 := Lib.hid (O2.out.on b3)
  clear i3 b3
  go_wp2_with fail
  go_at_call 16; refine (refInts_same (srt_ins ls) J3.out I3.out).mono ?_; rintro e w4 ⟨rfl, b4⟩
  have B4 := Lib.hid (B3.out.trans (b4.mono B3.out.size))
  have O4 := Lib.hid (O3.out.on b4)
  have HV4 := Lib.hid (HV.out.on B4.out)
  clear b4
  go_wp2_with fail
  go_at_call 19; refine (litHas_any ls _ _ _ O4.out).mono ?_; rintro e w' ⟨rfl, rfl⟩
  go_wp2_with fail
  go_at_call 20; refine (refHas_any ls _ _ _ HV4.out).mono ?_; rintro e w' ⟨rfl, rfl⟩
  go_wp2_with fail
  go_at_call 21; refine (Tied_any ls _ _ O4.out HZ.out).mono ?_; rintro e w5 ⟨rfl, b5⟩
  have B5 := Lib.hid (B4.out.trans (b5.mono B4.out.size))
  have O5 := Lib.hid (O4.out.on b5)
  have HV5 := Lib.hid (HV.out.on B5.out)
  clear b5
  go_wp2_with fail
  go_at_call 22; refine (refTied_any ls _ _ HV5.out).mono ?_; rintro e w' ⟨rfl, rfl⟩
  go_wp2_with fail
  go_at_call 16; refine (refInts_same rfl O5.out HV5.out).mono ?_; rintro e w6 ⟨rfl, b6⟩
  have B6 := Lib.hid (B5.out.trans (b6.mono B5.out.size))
  clear b6
  go_wp2_with fail
  go_at_call 15; refine (lives_any _ (hT.on B6.out)).mono ?_; rintro e w7 ⟨rfl, b7⟩
  go_wp2_with fail
  go_ret
  exact ⟨rfl, B6.out.trans (b7.mono B6.out.size)⟩

set_option maxHeartbeats 1600000 in
theorem lists_big (ad : Addr) (n cap : Nat) (l0 : List Int) (x : Int) (w : World) (hv : Ints w (.slice (some ad) n cap) l0) (h200 : 200 < n) (hT : Tab w) :
    Calls Tryd.prog 4 #[.slice (some ad) n cap, .int .i64 x] w fun e w' => e = .returned (.bool true) ∧ Below w.heap.size w w' := by
  obtain ⟨i0, hi, hz0, hz1, hz2⟩ := info_parts infoInt
  obtain ⟨-, hcap, hcm⟩ := ints_len_of hv
  obtain ⟨ls, hls⟩ : ∃ ls : List Int, ls = l0.take 200 := ⟨_, rfl⟩
  have hv2 := ints_take hv (k := 200) (by omega)
  rw [← hls] at hv2
  have HV := Lib.hid hv2
  have hlen := (ints_len_of hv2).1
  have HL := Lib.hid hlen
  have HZ : Hid (ls.length * 8 ≤ 140737488355328) := Lib.hid (by omega)
  have HZ2 : Hid (ls.length ≤ 1000000) := Lib.hid (by omega)
  unfold maxLen at hcm
  clear hv2 hlen hv hls
  go_enter Tryd.func4, Tryd.ntmps4
  have hmade : (w.alloc (.cells #[] 3)).ownsRow w.heap.size 3 1 (.slice (some ⟨w.heap.size, 0, none⟩) 0 0) 0 [] := World.ownsRow_made _ #[] 0 (Nat.le_refl _) (by unfold maxLen; omega) rfl
  have HNW := Lib.hid (news_of HV.out ((Below.refl _ w).alloc (Nat.le_refl _) (.cells #[] 3)))
  go_wp2_with (at_builtin; refine wpList_append_own _ rfl (.tmp 11) (.tmp 12) 27 rfl w.heap.size 3 i0 (.int .i64 0) 1 8 Tryd.underlying27 hi hz0 hz1 hz2 rfl (by decide) _ _ _ rfl hmade ad 200 cap (ls.map (Value.int .i64)) rfl (by simp [HL.out]) HNW.out (ints_ones ls) (by unfold maxLen; omega) (by omega) (by simp) ?_)
  intro v1 w1 hown1 hgrow _
  have hb1 : Below w.heap.size w w1 := ((Below.refl _ w).alloc (Nat.le_refl _) _).grown hgrow (by simp) (fun k hk => (hmade.lt k hk).1)
  have HO : Hid (Ints w1 v1 ls) := Lib.hid (ints_of_owned (B := w.heap.size) (by rw [HL.out]; simpa using hown1))
  have B1 := Lib.hid hb1
  have S1 := Lib.hid hb1.size
  clear hgrow hmade hown1 hb1
  go_wp2_with fail
  go_at_call 17; refine (Sorted_any ls _ _ HO.out HZ.out).mono ?_; rintro e w2 ⟨v2, rfl, i2, b2⟩
  have I2 := Lib.hid i2
  have B2 := Lib.hid (B1.out.trans (b2.mono S1.out))
  have O2 := Lib.hid (HO.out.on b2)
  clear i2 b2
  go_wp2_with fail
  go_at_call 18; refine (refSorted_any ls _ _ (HV.out.on B2.out) HZ2.out).mono ?_; rintro e w3 ⟨v3, rfl, i3, b3⟩
  have I3 := Lib.hid i3
  have J3 := Lib.hid (I2.out.on b3)
  have B3 := Lib.hid (B2.out.trans (b3.mono B2.out.size))
  have O3 := Lib.hid (O2.out.on b3)
  clear i3 b3
  go_wp2_with fail
  go_at_call 16; refine (refInts_same (srt_ins ls) J3.out I3.out).mono ?_; rintro e w4 ⟨rfl, b4⟩
  have B4 := Lib.hid (B3.out.trans (b4.mono B3.out.size))
  have O4 := Lib.hid (O3.out.on b4)
  have HV4 := Lib.hid (HV.out.on B4.out)
  clear b4
  go_wp2_with fail
  go_at_call 19; refine (litHas_any ls _ _ _ O4.out).mono ?_; rintro e w' ⟨rfl, rfl⟩
  go_wp2_with fail
  go_at_call 20; refine (refHas_any ls _ _ _ HV4.out).mono ?_; rintro e w' ⟨rfl, rfl⟩
  go_wp2_with fail
  go_at_call 21; refine (Tied_any ls _ _ O4.out HZ.out).mono ?_; rintro e w5 ⟨rfl, b5⟩
  have B5 := Lib.hid (B4.out.trans (b5.mono B4.out.size))
  have O5 := Lib.hid (O4.out.on b5)
  have HV5 := Lib.hid (HV.out.on B5.out)
  clear b5
  go_wp2_with fail
  go_at_call 22; refine (refTied_any ls _ _ HV5.out).mono ?_; rintro e w' ⟨rfl, rfl⟩
  go_wp2_with fail
  go_at_call 16; refine (refInts_same rfl O5.out HV5.out).mono ?_; rintro e w6 ⟨rfl, b6⟩
  have B6 := Lib.hid (B5.out.trans (b6.mono B5.out.size))
  clear b6
  go_wp2_with fail
  go_at_call 15; refine (lives_any _ (hT.on B6.out)).mono ?_; rintro e w7 ⟨rfl, b7⟩
  go_wp2_with fail
  go_ret
  exact ⟨rfl, B6.out.trans (b7.mono B6.out.size)⟩

theorem lists_walk (a : Option Addr) (n cap : Nat) (ls : List Int) (x : Int) (w : World) (hv : Ints w (.slice a n cap) ls) (hnil : a = none → n = 0 ∧ cap = 0) (hT : Tab w) :
    Calls Tryd.prog 4 #[.slice a n cap, .int .i64 x] w fun e w' => e = .returned (.bool true) ∧ Below w.heap.size w w' := by
  cases a with
  | none => obtain ⟨rfl, hc⟩ := hnil rfl; exact lists_nil cap x w hc hT
  | some ad =>
    by_cases h : 200 < n
    · exact lists_big ad n cap ls x w hv h hT
    · exact lists_small ad n cap ls x w hv (by omega) hT
end Go.Proofs.YtjmiclgagjkooaaDoor.lits
