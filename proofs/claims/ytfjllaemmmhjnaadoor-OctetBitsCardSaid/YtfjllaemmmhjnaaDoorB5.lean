/- The walk of the statement on truths and signs. -/
import Derived.Test.YtfjllaemmmhjnaaDoorB4
import Derived.Test.YtfjllaemmmhjnaaDoorW7
import Derived.Test.YtfjllaemmmhjnaaDoorFnP
namespace Go.Proofs.YtfjllaemmmhjnaaDoor.oct
open Go.RowKit Go.PlainAid
open Go.Proofs.YtfjllaemmmhjnaaDoor.fns
set_option linter.unusedVariables false

theorem Bools.on {w w' : World} {v : Value} {bs : List Bool} (h : Bools w v bs) (hb : Below w.heap.size w w') : Bools w' v bs := by
  obtain ⟨a, cap, hv, h1, h2, h3⟩ := h
  refine ⟨a, cap, hv, h1, h2, fun hp => ?_⟩
  obtain ⟨b, off, ha, hlt, hc⟩ := h3 hp
  exact ⟨b, off, ha, Nat.lt_of_lt_of_le hlt hb.size, fun i hi => (hb.cell (p := ⟨b, off + i, none⟩) hlt).trans (hc i hi)⟩

theorem bt_text (ls : List Bool) (k : Nat) (h : k < ls.length) : bt (textS ls) k = ((sign (ls.getD k false)).toNat : Int) := by
  refine bt_at (l := ls.map sign) (by simp [textS]) ?_
  rw [List.getElem?_map, List.getElem?_eq_getElem h]
  simp [List.getD, h]
theorem textS_size (ls : List Bool) : (textS ls).size = ls.length := by simp [textS, ByteArray.size]
theorem bits_text (ls : List Bool) : bitsR (textS ls) = (ls, 0) := by
  have hg : goodTo (textS ls) (textS ls).size := fun i hi => by
    rw [textS_size] at hi
    rw [bt_text ls i hi]
    cases ls.getD i false <;> simp [sign]
  rw [bitsR_good hg]
  refine Prod.ext ?_ rfl
  apply List.ext_getElem
  · rw [bitsTo_len, textS_size]
  · intro i h1 h2
    simp only [bitsTo, List.getElem_map, List.getElem_range]
    rw [bt_text ls i h2]
    have e : ls.getD i false = ls[i] := by simp [List.getD, h2]
    rw [e]
    cases ls[i] <;> simp [sign]
theorem text_bits {s : ByteArray} (h : goodTo s s.size) : textS (bitsTo s s.size) = s := by
  apply ByteArray.ext
  apply Array.ext
  · show (textS _).size = s.size
    rw [textS_size, bitsTo_len]
  · intro i h1 h2
    have hi : i < s.size := h2
    have hb := h i hi
    have hx : bt s i = ((s[i]'hi).toNat : Int) := (get_bt s i hi).symm
    simp only [textS, bitsTo, List.getElem_toArray, List.getElem_map, List.getElem_range]
    show sign (decide (bt s i = 49)) = s[i]'hi
    apply UInt8.toNat_inj.1
    rcases hb with hb | hb
    · rw [hb] at hx ⊢
      simp [sign]; omega
    · rw [hb] at hx ⊢
      simp [sign]; omega

theorem bits_at (s : ByteArray) (r : List Bool) (c : Int) (h : bitsR s = (r, c)) (w : World) (hm : s.size ≤ 2000) :
    Calls Tryd.prog 21 #[.string s] w (GotBits w (r, c)) := h ▸ bits_any s w hm
theorem refBits_at (s : ByteArray) (r : List Bool) (c : Int) (h : bitsR s = (r, c)) (w : World) (hm : s.size ≤ 2000) :
    Calls Tryd.prog 22 #[.string s] w (GotBits w (r, c)) := h ▸ refBits_any s w hm
theorem same_self (bs : List Bool) (v u : Value) (w : World) (hv : Bools w v bs) (hu : Bools w u bs) (hm : bs.length ≤ 2000) :
    Calls Tryd.prog 24 #[v, u] w fun e w' => e = .returned (.bool true) ∧ Below w.heap.size w w' := by
  have h := same_any bs bs v u w hv hu hm hm
  simp only [decide_true] at h
  exact h

theorem bools_one (ls : List Bool) : ∀ u ∈ ls.map Value.bool, u.oneCell' = true := by
  intro u hu; obtain ⟨x, -, rfl⟩ := List.mem_map.1 hu; rfl
theorem news_of {w w' : World} {ad : Addr} {cap : Nat} {ls : List Bool} (h : Bools w (.slice (some ad) ls.length cap) ls) (hb : Below w.heap.size w w') :
    ∀ (j : Nat) (u : Value), (ls.map Value.bool)[j]? = some u → w'.cell? (ad.add j) = some u := by
  intro j u hj
  obtain ⟨a, cap', hv, h1, h2, h3⟩ := h
  obtain ⟨rfl, -⟩ := Value.slice.inj hv
  have hl := (List.getElem?_eq_some_iff.1 hj).1
  rw [List.length_map] at hl
  obtain ⟨b, off, ha, hlt, hc⟩ := h3 (by omega)
  obtain rfl := Option.some.inj ha
  have e : (⟨b, off, none⟩ : Addr).add j = ⟨b, off + j, none⟩ := by unfold Addr.add; split <;> simp_all
  rw [e, (hb.cell (p := ⟨b, off + j, none⟩) hlt), hc j hl]
  rw [List.getElem?_map, List.getElem?_eq_getElem hl] at hj
  simp only [Option.map_some, Option.some.injEq] at hj
  rw [← hj]
  simp [List.getD, hl]

set_option maxHeartbeats 1600000 in
theorem bits_walk (s : ByteArray) (ls : List Bool) (a : Option Addr) (cap : Nat) (w : World) (hs : s.size ≤ maxLen) (hv : Bools w (.slice a ls.length cap) ls) (hnil : a = none → ls = [] ∧ cap = 0) (hT : Tab w) :
    Calls Tryd.prog 6 #[.string s, .slice a ls.length cap] w fun e w' => e = .returned (.bool true) ∧ Below w.heap.size w w' := by
  obtain ⟨i0, hi, hz0, hz1, hz2⟩ := info_parts infoBool
  have hm : ls.length ≤ maxLen := by obtain ⟨a, cap, h, h1, h2, -⟩ := hv; omega
  unfold maxLen at hs hm
  have HV := Lib.hid hv
  clear hv
  by_cases h1 : 2000 < s.size
  · go_enter Tryd.func6, Tryd.ntmps6
    go_wp2_with fail
    go_at_call 12; refine (lives_any _ hT).mono ?_; rintro e w1 ⟨rfl, b1⟩
    go_wp2_with fail
    go_ret
    exact ⟨rfl, b1⟩
  · by_cases h2 : 2000 < ls.length
    · go_enter Tryd.func6, Tryd.ntmps6
      go_wp2_with fail
      go_at_call 12; refine (lives_any _ hT).mono ?_; rintro e w1 ⟨rfl, b1⟩
      go_wp2_with fail
      go_ret
      exact ⟨rfl, b1⟩
    · have hs2 : s.size ≤ 2000 := by omega
      have hl2 : ls.length ≤ 2000 := by omega
      obtain ⟨r, c, hr⟩ : ∃ r c, bitsR s = (r, c) := ⟨_, _, rfl⟩
      have hrc : (c = 0 ∧ textS r = s ∧ r.length ≤ 2000) ∨ (c = 2 ∧ r.length ≤ 2000) := by
        by_cases hg : goodTo s s.size
        · rw [bitsR_good hg] at hr
          obtain ⟨rfl, rfl⟩ := Prod.mk.inj hr
          exact .inl ⟨rfl, text_bits hg, by rw [bitsTo_len]; omega⟩
        · unfold bitsR at hr
          rw [if_neg hg] at hr
          obtain ⟨rfl, rfl⟩ := Prod.mk.inj hr
          exact .inr ⟨rfl, by simp⟩
      have HR := Lib.hid hr
      clear hr
      rcases hrc with ⟨rfl, htx, hrl⟩ | ⟨rfl, hrl⟩
      · have HTX := Lib.hid htx
        clear htx
        cases a with
        | none =>
          obtain ⟨hls, rfl⟩ := hnil rfl
          subst hls
          go_enter Tryd.func6, Tryd.ntmps6
          go_wp2_with fail
          go_at_call 21; refine (bits_at s r 0 HR.out _ hs2).mono ?_; rintro e w1 ⟨va, rfl, ha, b1⟩
          go_wp2_with fail
          go_at_call 22; refine (refBits_at s r 0 HR.out _ hs2).mono ?_; rintro e w2 ⟨vb, rfl, hb, b2⟩
          have s1 := b1.size
          have s2 := b2.size
          have hmade : (w2.alloc (.cells #[] 4)).ownsRow w2.heap.size 4 1 (.slice (some ⟨w2.heap.size, 0, none⟩) 0 0) 0 [] := World.ownsRow_made _ #[] 0 (Nat.le_refl _) (by unfold maxLen; omega) rfl
          go_wp2_with (at_builtin; refine wpList_append_own_none rfl (.tmp 31) (.tmp 32) 44 rfl w2.heap.size 4 i0 1 Tryd.underlying44 hi _ _ _ rfl hmade rfl ?_)
          obtain ⟨v3, hv3'⟩ : ∃ v3, v3 = Value.slice (some ⟨w2.heap.size, 0, none⟩) 0 0 := ⟨_, rfl⟩
          obtain ⟨w3, hw3⟩ : ∃ w3, w3 = w2.alloc (.cells #[] 4) := ⟨_, rfl⟩
          have hown3 : w3.ownsRow w2.heap.size 4 1 v3 ([] : List Bool).length (([] : List Bool).map Value.bool) := by rw [hw3, hv3']; exact hmade
          have b3 : Below w2.heap.size w2 w3 := by rw [hw3]; exact (Below.refl _ w2).alloc (Nat.le_refl _) _
          rw [← hv3', ← hw3]
          clear hmade hv3' hw3
          have hv3 : Bools w3 v3 [] := bools_of_owned (B := w2.heap.size) hown3
          have B3 : Below w.heap.size w w3 := (b1.trans (b2.mono s1)).trans (b3.mono (by omega))
          clear hown3
          go_wp2_with fail
          go_at_call 23; refine (text_any [] _ _ hv3 hl2).mono ?_; rintro e w4 ⟨rfl, b4⟩
          have s3 := b3.size
          have s4 := b4.size
          go_wp2_with fail
          go_at_call 21; refine (bits_at (textS []) [] 0 (bits_text []) _ (by rw [textS_size]; exact hl2)).mono ?_; rintro e w5 ⟨vc, rfl, hc, b5⟩
          have s5 := b5.size
          go_wp2_with fail
          go_at_call 24; refine (same_self r _ _ _ ((((ha.on b2).on b3).on b4).on b5) (((hb.on b3).on b4).on b5) hrl).mono ?_; rintro e w6 ⟨rfl, b6⟩
          have s6 := b6.size
          have B6 : Below w.heap.size w w6 := ((B3.trans (b4.mono (by omega))).trans (b5.mono (by omega))).trans (b6.mono (by omega))
          go_wp2_with fail
          go_at_call 25; refine (refText_any [] _ _ (HV.out.on B6) hl2).mono ?_; rintro e w' ⟨rfl, rfl⟩
          go_wp2_with fail
          go_at_call 24; refine (same_self [] _ _ _ (hc.on b6) (HV.out.on B6) hl2).mono ?_; rintro e w7 ⟨rfl, b7⟩
          have s7 := b7.size
          have B7 : Below w.heap.size w w7 := B6.trans (b7.mono (by omega))
          go_wp2_with fail
          go_at_call 23; refine (text_any r _ _ ((((((ha.on b2).on b3).on b4).on b5).on b6).on b7) hrl).mono ?_; rintro e w8 ⟨rfl, b8⟩
          have s8 := b8.size
          have B8 : Below w.heap.size w w8 := B7.trans (b8.mono (by omega))
          rw [HTX.out]
          go_wp2_with fail
          go_at_call 12; refine (lives_any _ (hT.on B8)).mono ?_; rintro e w9 ⟨rfl, b9⟩
          go_wp2_with fail
          go_ret
          exact ⟨rfl, B8.trans (b9.mono (by omega))⟩
        | some ad =>
          clear hnil
          go_enter Tryd.func6, Tryd.ntmps6
          go_wp2_with fail
          go_at_call 21; refine (bits_at s r 0 HR.out _ hs2).mono ?_; rintro e w1 ⟨va, rfl, ha, b1⟩
          go_wp2_with fail
          go_at_call 22; refine (refBits_at s r 0 HR.out _ hs2).mono ?_; rintro e w2 ⟨vb, rfl, hb, b2⟩
          have s1 := b1.size
          have s2 := b2.size
          have hmade : (w2.alloc (.cells #[] 4)).ownsRow w2.heap.size 4 1 (.slice (some ⟨w2.heap.size, 0, none⟩) 0 0) 0 [] := World.ownsRow_made _ #[] 0 (Nat.le_refl _) (by unfold maxLen; omega) rfl
          have hnews := news_of HV.out (((b1.trans (b2.mono s1)).alloc (by omega) (.cells #[] 4)))
          have HNW := Lib.hid hnews
          clear hnews
          go_wp2_with (at_builtin; refine wpList_append_own _ rfl (.tmp 31) (.tmp 32) 44 rfl w2.heap.size 4 i0 (.bool false) 1 1 Tryd.underlying44 hi hz0 hz1 hz2 rfl (by decide) _ _ _ rfl hmade ad ls.length cap (ls.map Value.bool) rfl (by simp) HNW.out (bools_one ls) (by unfold maxLen; omega) (by omega) (by simp) ?_)
          intro v3 w3 hown3 hgrow _
          have b3 : Below w2.heap.size w2 w3 := ((Below.refl _ w2).alloc (Nat.le_refl _) _).grown hgrow (by simp) (fun k hk => (hmade.lt k hk).1)
          clear hgrow hmade
          have hv3 : Bools w3 v3 ls := bools_of_owned (B := w2.heap.size) hown3
          have B3 : Below w.heap.size w w3 := (b1.trans (b2.mono s1)).trans (b3.mono (by omega))
          clear hown3
          go_wp2_with fail
          go_at_call 23; refine (text_any ls _ _ hv3 hl2).mono ?_; rintro e w4 ⟨rfl, b4⟩
          have s3 := b3.size
          have s4 := b4.size
          go_wp2_with fail
          go_at_call 21; refine (bits_at (textS ls) ls 0 (bits_text ls) _ (by rw [textS_size]; exact hl2)).mono ?_; rintro e w5 ⟨vc, rfl, hc, b5⟩
          have s5 := b5.size
          go_wp2_with fail
          go_at_call 24; refine (same_self r _ _ _ ((((ha.on b2).on b3).on b4).on b5) (((hb.on b3).on b4).on b5) hrl).mono ?_; rintro e w6 ⟨rfl, b6⟩
          have s6 := b6.size
          have B6 : Below w.heap.size w w6 := ((B3.trans (b4.mono (by omega))).trans (b5.mono (by omega))).trans (b6.mono (by omega))
          go_wp2_with fail
          go_at_call 25; refine (refText_any ls _ _ (HV.out.on B6) hl2).mono ?_; rintro e w' ⟨rfl, rfl⟩
          go_wp2_with fail
          go_at_call 24; refine (same_self ls _ _ _ (hc.on b6) (HV.out.on B6) hl2).mono ?_; rintro e w7 ⟨rfl, b7⟩
          have s7 := b7.size
          have B7 : Below w.heap.size w w7 := B6.trans (b7.mono (by omega))
          go_wp2_with fail
          go_at_call 23; refine (text_any r _ _ ((((((ha.on b2).on b3).on b4).on b5).on b6).on b7) hrl).mono ?_; rintro e w8 ⟨rfl, b8⟩
          have s8 := b8.size
          have B8 : Below w.heap.size w w8 := B7.trans (b8.mono (by omega))
          rw [HTX.out]
          go_wp2_with fail
          go_at_call 12; refine (lives_any _ (hT.on B8)).mono ?_; rintro e w9 ⟨rfl, b9⟩
          go_wp2_with fail
          go_ret
          exact ⟨rfl, B8.trans (b9.mono (by omega))⟩
      · cases a with
        | none =>
          obtain ⟨hls, rfl⟩ := hnil rfl
          subst hls
          go_enter Tryd.func6, Tryd.ntmps6
          go_wp2_with fail
          go_at_call 21; refine (bits_at s r 2 HR.out _ hs2).mono ?_; rintro e w1 ⟨va, rfl, ha, b1⟩
          go_wp2_with fail
          go_at_call 22; refine (refBits_at s r 2 HR.out _ hs2).mono ?_; rintro e w2 ⟨vb, rfl, hb, b2⟩
          have s1 := b1.size
          have s2 := b2.size
          have hmade : (w2.alloc (.cells #[] 4)).ownsRow w2.heap.size 4 1 (.slice (some ⟨w2.heap.size, 0, none⟩) 0 0) 0 [] := World.ownsRow_made _ #[] 0 (Nat.le_refl _) (by unfold maxLen; omega) rfl
          go_wp2_with (at_builtin; refine wpList_append_own_none rfl (.tmp 31) (.tmp 32) 44 rfl w2.heap.size 4 i0 1 Tryd.underlying44 hi _ _ _ rfl hmade rfl ?_)
          obtain ⟨v3, hv3'⟩ : ∃ v3, v3 = Value.slice (some ⟨w2.heap.size, 0, none⟩) 0 0 := ⟨_, rfl⟩
          obtain ⟨w3, hw3⟩ : ∃ w3, w3 = w2.alloc (.cells #[] 4) := ⟨_, rfl⟩
          have hown3 : w3.ownsRow w2.heap.size 4 1 v3 ([] : List Bool).length (([] : List Bool).map Value.bool) := by rw [hw3, hv3']; exact hmade
          have b3 : Below w2.heap.size w2 w3 := by rw [hw3]; exact (Below.refl _ w2).alloc (Nat.le_refl _) _
          rw [← hv3', ← hw3]
          clear hmade hv3' hw3
          have hv3 : Bools w3 v3 [] := bools_of_owned (B := w2.heap.size) hown3
          have B3 : Below w.heap.size w w3 := (b1.trans (b2.mono s1)).trans (b3.mono (by omega))
          clear hown3
          go_wp2_with fail
          go_at_call 23; refine (text_any [] _ _ hv3 hl2).mono ?_; rintro e w4 ⟨rfl, b4⟩
          have s3 := b3.size
          have s4 := b4.size
          go_wp2_with fail
          go_at_call 21; refine (bits_at (textS []) [] 0 (bits_text []) _ (by rw [textS_size]; exact hl2)).mono ?_; rintro e w5 ⟨vc, rfl, hc, b5⟩
          have s5 := b5.size
          go_wp2_with fail
          go_at_call 24; refine (same_self r _ _ _ ((((ha.on b2).on b3).on b4).on b5) (((hb.on b3).on b4).on b5) hrl).mono ?_; rintro e w6 ⟨rfl, b6⟩
          have s6 := b6.size
          have B6 : Below w.heap.size w w6 := ((B3.trans (b4.mono (by omega))).trans (b5.mono (by omega))).trans (b6.mono (by omega))
          go_wp2_with fail
          go_at_call 25; refine (refText_any [] _ _ (HV.out.on B6) hl2).mono ?_; rintro e w' ⟨rfl, rfl⟩
          go_wp2_with fail
          go_at_call 24; refine (same_self [] _ _ _ (hc.on b6) (HV.out.on B6) hl2).mono ?_; rintro e w7 ⟨rfl, b7⟩
          have s7 := b7.size
          have B7 : Below w.heap.size w w7 := B6.trans (b7.mono (by omega))
          go_wp2_with fail
          go_at_call 12; refine (lives_any _ (hT.on B7)).mono ?_; rintro e w9 ⟨rfl, b9⟩
          go_wp2_with fail
          go_ret
          exact ⟨rfl, B7.trans (b9.mono (by omega))⟩
        | some ad =>
          clear hnil
          go_enter Tryd.func6, Tryd.ntmps6
          go_wp2_with fail
          go_at_call 21; refine (bits_at s r 2 HR.out _ hs2).mono ?_; rintro e w1 ⟨va, rfl, ha, b1⟩
          go_wp2_with fail
          go_at_call 22; refine (refBits_at s r 2 HR.out _ hs2).mono ?_; rintro e w2 ⟨vb, rfl, hb, b2⟩
          have s1 := b1.size
          have s2 := b2.size
          have hmade : (w2.alloc (.cells #[] 4)).ownsRow w2.heap.size 4 1 (.slice (some ⟨w2.heap.size, 0, none⟩) 0 0) 0 [] := World.ownsRow_made _ #[] 0 (Nat.le_refl _) (by unfold maxLen; omega) rfl
          have hnews := news_of HV.out (((b1.trans (b2.mono s1)).alloc (by omega) (.cells #[] 4)))
          have HNW := Lib.hid hnews
          clear hnews
          go_wp2_with (at_builtin; refine wpList_append_own _ rfl (.tmp 31) (.tmp 32) 44 rfl w2.heap.size 4 i0 (.bool false) 1 1 Tryd.underlying44 hi hz0 hz1 hz2 rfl (by decide) _ _ _ rfl hmade ad ls.length cap (ls.map Value.bool) rfl (by simp) HNW.out (bools_one ls) (by unfold maxLen; omega) (by omega) (by simp) ?_)
          intro v3 w3 hown3 hgrow _
          have b3 : Below w2.heap.size w2 w3 := ((Below.refl _ w2).alloc (Nat.le_refl _) _).grown hgrow (by simp) (fun k hk => (hmade.lt k hk).1)
          clear hgrow hmade
          have hv3 : Bools w3 v3 ls := bools_of_owned (B := w2.heap.size) hown3
          have B3 : Below w.heap.size w w3 := (b1.trans (b2.mono s1)).trans (b3.mono (by omega))
          clear hown3
          go_wp2_with fail
          go_at_call 23; refine (text_any ls _ _ hv3 hl2).mono ?_; rintro e w4 ⟨rfl, b4⟩
          have s3 := b3.size
          have s4 := b4.size
          go_wp2_with fail
          go_at_call 21; refine (bits_at (textS ls) ls 0 (bits_text ls) _ (by rw [textS_size]; exact hl2)).mono ?_; rintro e w5 ⟨vc, rfl, hc, b5⟩
          have s5 := b5.size
          go_wp2_with fail
          go_at_call 24; refine (same_self r _ _ _ ((((ha.on b2).on b3).on b4).on b5) (((hb.on b3).on b4).on b5) hrl).mono ?_; rintro e w6 ⟨rfl, b6⟩
          have s6 := b6.size
          have B6 : Below w.heap.size w w6 := ((B3.trans (b4.mono (by omega))).trans (b5.mono (by omega))).trans (b6.mono (by omega))
          go_wp2_with fail
          go_at_call 25; refine (refText_any ls _ _ (HV.out.on B6) hl2).mono ?_; rintro e w' ⟨rfl, rfl⟩
          go_wp2_with fail
          go_at_call 24; refine (same_self ls _ _ _ (hc.on b6) (HV.out.on B6) hl2).mono ?_; rintro e w7 ⟨rfl, b7⟩
          have s7 := b7.size
          have B7 : Below w.heap.size w w7 := B6.trans (b7.mono (by omega))
          go_wp2_with fail
          go_at_call 12; refine (lives_any _ (hT.on B7)).mono ?_; rintro e w9 ⟨rfl, b9⟩
          go_wp2_with fail
          go_ret
          exact ⟨rfl, B7.trans (b9.mono (by omega))⟩
end Go.Proofs.YtfjllaemmmhjnaaDoor.oct
