/- The walks on truths and signs: second part: truths of signs. -/
import Derived.Test.YtfjllaemmmhjnaaDoorB1
namespace Go.Proofs.YtfjllaemmmhjnaaDoor.oct
open Go.RowKit Go.PlainAid
open Go.Proofs.YtfjllaemmmhjnaaDoor.fns

/-- the truths of a text's first k signs -/
def bitsTo (s : ByteArray) (k : Nat) : List Bool := (List.range k).map fun i => decide (bt s i = 49)
def goodTo (s : ByteArray) (k : Nat) : Prop := ∀ i, i < k → bt s i = 48 ∨ bt s i = 49
theorem bitsTo_len (s : ByteArray) (k : Nat) : (bitsTo s k).length = k := by simp [bitsTo]
theorem bitsTo_succ (s : ByteArray) (k : Nat) : bitsTo s (k + 1) = bitsTo s k ++ [decide (bt s k = 49)] := by simp [bitsTo, List.range_succ]
instance (s : ByteArray) (k : Nat) : Decidable (goodTo s k) := by unfold goodTo; exact inferInstance
/-- a text's truths, and the error -/
def bitsR (s : ByteArray) : List Bool × Int := if goodTo s s.size then (bitsTo s s.size, 0) else ([], 2)
theorem bitsR_good {s : ByteArray} (h : goodTo s s.size) : bitsR s = (bitsTo s s.size, 0) := by unfold bitsR; rw [if_pos h]
theorem bitsR_bad {s : ByteArray} {k : Nat} (hk : k < s.size) (h0 : bt s k ≠ 48) (h1 : bt s k ≠ 49) : bitsR s = ([], 2) := by
  unfold bitsR; rw [if_neg]; intro h; rcases h k hk with h | h
  · exact h0 h
  · exact h1 h

theorem two_ret {v : Value} {c : Int} {r : List Bool × Int} {bs : List Bool} (h : r = (bs, c)) : Ending.returned (.tuple #[v, .int .i64 c]) = .returned (.tuple #[v, .int .i64 r.2]) := by rw [h]
def GotBits (w : World) (r : List Bool × Int) (e : Ending) (w' : World) : Prop := ∃ v, e = .returned (.tuple #[v, .int .i64 r.2]) ∧ Bools w' v r.1 ∧ Below w.heap.size w w'

/-- the cells of a row of truths that is filled so far -/
def filledB (s : ByteArray) (k : Nat) : List Value := (bitsTo s k).map Value.bool ++ List.replicate (s.size - k) (.bool false)
theorem filledB_zero (s : ByteArray) : filledB s 0 = List.replicate s.size (.bool false) := by simp [filledB, bitsTo]
theorem filledB_all (s : ByteArray) : filledB s s.size = (bitsTo s s.size).map Value.bool := by simp [filledB]
theorem filledB_len (s : ByteArray) (k : Nat) (h : k ≤ s.size) : (filledB s k).length = s.size := by simp [filledB, bitsTo]; omega
theorem filledB_keep (s : ByteArray) (k : Nat) (h : k < s.size) (h0 : bt s k = 48) : filledB s k = filledB s (k + 1) := by
  unfold filledB
  rw [bitsTo_succ, (by omega : s.size - k = (s.size - (k + 1)) + 1), List.replicate_succ, h0]
  simp
theorem filledB_set (s : ByteArray) (k : Nat) (h : k < s.size) (h1 : bt s k = 49) : (filledB s k).set k (.bool true) = filledB s (k + 1) := by
  unfold filledB
  have hl : ((bitsTo s k).map Value.bool).length = k := by simp [bitsTo]
  rw [bitsTo_succ, (by omega : s.size - k = (s.size - (k + 1)) + 1), List.replicate_succ, h1, List.set_append_right _ _ (by omega), hl]
  simp

theorem infoBool : (Tryd.prog.info? 4).map (fun i => (i.zero, i.size, i.bytes)) = some (some (.bool false), 1, 1) := by kernel_rfl

/-- an owned row of truths reads as they -/
theorem bools_of_owned {w : World} {B : Nat} {v : Value} {bs : List Bool} (h : w.ownsRow B 4 1 v bs.length (bs.map Value.bool)) : Bools w v bs := by
  rcases h.2 with ⟨rfl, h0⟩ | ⟨g, cap, cur, rfl, hb, hg, hn, hm, hs, ht⟩
  · exact ⟨none, 0, by rw [h0], by omega, by unfold maxLen; omega, fun hp => by omega⟩
  · refine ⟨some ⟨g, 0, none⟩, cap, rfl, hn, hm, fun hp => ⟨g, 0, rfl, (Array.getElem?_eq_some_iff.1 hg).1, fun i hi => ?_⟩⟩
    rw [Nat.zero_add, h.cellAt i (by omega), List.getElem?_map, List.getElem?_eq_getElem hi]
    simp [List.getD, hi]

theorem bits_any (s : ByteArray) (w : World) (hm : s.size ≤ 2000) :
    Calls Tryd.prog 21 #[.string s] w (GotBits w (bitsR s)) := by
  obtain ⟨i0, hi, hz0, hz1, hz2⟩ := info_parts infoBool
  have hgb := get_bt s
  go_enter Tryd.func21, Tryd.ntmps21
  go_wp2_with (refine wpList_make_full _ rfl (.tmp 7) (.tmp 7) 44 rfl w.heap.size 4 i0 (.bool false) 1 Tryd.underlying44 hi hz0 hz1 .i64 .i64 _ _ s.size rfl rfl rfl rfl (by rw [hz2]; omega) (by unfold maxLen; omega) (Nat.le_refl _) ?_)
  intro w1 hown hgrow
  have hb : Below w.heap.size w w1 := (Below.refl _ w).grown hgrow (Nat.le_refl _) (fun k hk => by cases hk)
  rw [show (madeCells #[Value.bool false] s.size).toList = filledB s 0 by rw [filledB_zero]; exact made_one _ _] at hown
  clear hgrow
  go_wp2
  go_loopw [11] (fun i wr => ∃ k : Nat, k ≤ s.size ∧ i = .int .i64 k ∧ goodTo s k ∧ wr.ownsRow w.heap.size 4 1 (.slice (some ⟨w.heap.size, 0, none⟩) s.size s.size) s.size (filledB s k) ∧ Below w.heap.size w wr) (fun i _ => s.size - (intOf i).toNat)
  case atStart => exact ⟨0, Nat.zero_le _, rfl, fun i hi => by omega, hown, hb⟩
  case round =>
    clear hown hb
    obtain ⟨k, hk, rfl, hgood, hown, hb⟩ := hrel
    by_cases h1 : k < s.size
    · have HG := Lib.hid hgood
      have HO := Lib.hid hown
      have HB := Lib.hid hb
      have q0 := bt_nonneg s k
      have q1 := bt_le s k
      by_cases h48 : bt s k = 48
      · have HT := Lib.hid h48
        have c1 : (bt s k == 48) = true := by simp [h48]
        clear hgood hown hb h48
        go_wp2
        go_roundw
        case rel => exact ⟨k + 1, by omega, by go_num, fun i hi => by by_cases e : i = k; exact e ▸ .inl HT.out; exact HG.out i (by omega), by rw [← filledB_keep s k h1 HT.out]; exact HO.out, HB.out⟩
        case measure => simp [intOf]; omega
      · have c1 : (bt s k == 48) = false := by simp [h48]
        by_cases h49 : bt s k = 49
        · have c2 : (bt s k == 49) = true := by simp [h49]
          have HT := Lib.hid h49
          have hf := hown.frozenAt k
          have hx := hown.cellAt k (by omega)
          have hxs : ∃ u, (filledB s k)[k]? = some u := ⟨_, List.getElem?_eq_getElem (by rw [filledB_len _ _ (by omega)]; exact h1)⟩
          obtain ⟨u, hu⟩ := hxs
          rw [hu] at hx
          clear hgood hown hb h48 h49 hu
          go_wp2
          go_roundw
          case rel =>
            have s1 := HO.out.stored k (.bool true)
            rw [filledB_set s k h1 HT.out] at s1
            exact ⟨k + 1, by omega, by go_num, fun i hi => by by_cases e : i = k; exact e ▸ .inr HT.out; exact HG.out i (by omega), s1.1, HB.out.setCell (p := ⟨w.heap.size, k, none⟩) (Nat.le_refl _) _⟩
          case measure => simp [intOf]; omega
        · have c2 : (bt s k == 49) = false := by simp [h49]
          have HR := Lib.hid (bitsR_bad h1 h48 h49)
          clear hgood hown hb h48 h49
          go_wp2
          go_ret2
          exact ⟨.slice none 0 0, two_ret HR.out, by rw [HR.out]; exact ⟨none, 0, rfl, Nat.le_refl _, by unfold maxLen; omega, fun h => by simp at h⟩, HB.out⟩
    · obtain rfl : k = s.size := by omega
      have HR := Lib.hid (bitsR_good hgood)
      have HO := Lib.hid hown
      have HB := Lib.hid hb
      clear hgood hown hb
      go_wp2
      go_ret2
      refine ⟨.slice (some ⟨w.heap.size, 0, none⟩) s.size s.size, two_ret HR.out, ?_, HB.out⟩
      have hown := HO.out
      rw [HR.out]
      rw [filledB_all] at hown
      exact bools_of_owned (B := w.heap.size) (by rw [bitsTo_len]; exact hown)
end Go.Proofs.YtfjllaemmmhjnaaDoor.oct
