/- The walks on truths and signs: third part: the document's answers. -/
import Derived.Test.YtfjllaemmmhjnaaDoorB2
import Derived.Deep.QuietTactic
import Derived.BigQuiet
namespace Go.Proofs.YtfjllaemmmhjnaaDoor.oct
open Go.RowKit Go.PlainAid
open Go.Proofs.YtfjllaemmmhjnaaDoor.fns

theorem bits_snoc {s : ByteArray} {k : Nat} {b : Bool} (h : decide (bt s k = 49) = b) : (bitsTo s k).map Value.bool ++ [Value.bool b] = (bitsTo s (k + 1)).map Value.bool := by
  rw [bitsTo_succ, h]; simp

set_option maxHeartbeats 400000 in
theorem refBits_any (s : ByteArray) (w : World) (hm : s.size ≤ 2000) :
    Calls Tryd.prog 22 #[.string s] w (GotBits w (bitsR s)) := by
  obtain ⟨i0, hi, hz0, hz1, hz2⟩ := info_parts infoBool
  have hgb := get_bt s
  go_enter Tryd.func22, Tryd.ntmps22
  go_wp2
  go_loopw [4, 5] (fun v i wr => ∃ k : Nat, k ≤ s.size ∧ i = .int .i64 k ∧ goodTo s k ∧ wr.ownsRow w.heap.size 4 1 v k ((bitsTo s k).map Value.bool) ∧ Below w.heap.size w wr) (fun _ i _ => s.size - (intOf i).toNat)
  case atStart => exact ⟨0, Nat.zero_le _, rfl, fun i hi => by omega, World.ownsRow_made _ #[] 0 (Nat.le_refl _) (by unfold maxLen; omega) rfl, (Below.refl _ _).alloc (Nat.le_refl _) _⟩
  case round =>
    obtain ⟨k, hk, rfl, hgood, hown, hb⟩ := hrel
    have HG := Lib.hid hgood
    have HB := Lib.hid hb
    have hbs := hb.size
    have q0 := bt_nonneg s k
    have q1 := bt_le s k
    by_cases h1 : k < s.size
    · by_cases h48 : bt s k = 48
      · have HT := Lib.hid h48
        have c1 : (bt s k == 48) = true := by simp [h48]
        have c1' : (bt s k != 48) = false := by simp [h48]
        have c2 : (bt s k == 49) = false := by simp [h48]
        have hz : decide (bt s k = 49) = false := by simp [h48]
        have HZ := Lib.hid hz
        clear hgood hb h48 hz
        go_wp2_with (at_builtin; refine wpList_append_own _ rfl (.tmp 23) (.tmp 28) 44 rfl w.heap.size 4 i0 (.bool false) 1 1 Tryd.underlying44 hi hz0 hz1 hz2 rfl (by decide) _ _ _ rfl (hown.alloc _) ⟨wr.heap.size, 0, none⟩ 1 1 [.bool false] rfl rfl (by intro j u hj; match j, hj with | 0, hj => simp at hj; subst hj; simp [Addr.add]) (by intro u hu; simp at hu; subst hu; rfl) (by unfold maxLen; omega) (by omega) (by simp; omega) ?_)
        intro v' w1 hown' hgrow _
        have hb' : Below w.heap.size w w1 := (HB.out.alloc hbs _).grown hgrow (by simp; omega) (fun k hk => (hown.lt k hk).1)
        rw [bits_snoc HZ.out] at hown'
        clear hgrow hown
        go_wp2
        go_roundw
        case rel => exact ⟨k + 1, by omega, by go_num, fun i hi => by by_cases e : i = k; exact e ▸ .inl HT.out; exact HG.out i (by omega), hown', hb'⟩
        case measure => simp [intOf]; omega
      · have c1 : (bt s k == 48) = false := by simp [h48]
        have c1' : (bt s k != 48) = true := by simp [h48]
        by_cases h49 : bt s k = 49
        · have c2 : (bt s k == 49) = true := by simp [h49]
          have c2' : (bt s k != 49) = false := by simp [h49]
          have HT := Lib.hid h49
          have hz : decide (bt s k = 49) = true := by simp [h49]
          have HZ := Lib.hid hz
          clear hgood hb h48 h49 hz
          go_wp2_with (at_builtin; refine wpList_append_own _ rfl (.tmp 23) (.tmp 28) 44 rfl w.heap.size 4 i0 (.bool false) 1 1 Tryd.underlying44 hi hz0 hz1 hz2 rfl (by decide) _ _ _ rfl (hown.alloc _) ⟨wr.heap.size, 0, none⟩ 1 1 [.bool true] rfl rfl (by intro j u hj; match j, hj with | 0, hj => simp at hj; subst hj; simp [Addr.add]) (by intro u hu; simp at hu; subst hu; rfl) (by unfold maxLen; omega) (by omega) (by simp; omega) ?_)
          intro v' w1 hown' hgrow _
          have hb' : Below w.heap.size w w1 := (HB.out.alloc hbs _).grown hgrow (by simp; omega) (fun k hk => (hown.lt k hk).1)
          rw [bits_snoc HZ.out] at hown'
          clear hgrow hown
          go_wp2
          go_roundw
          case rel => exact ⟨k + 1, by omega, by go_num, fun i hi => by by_cases e : i = k; exact e ▸ .inr HT.out; exact HG.out i (by omega), hown', hb'⟩
          case measure => simp [intOf]; omega
        · have c2 : (bt s k == 49) = false := by simp [h49]
          have c2' : (bt s k != 49) = true := by simp [h49]
          have HR := Lib.hid (bitsR_bad h1 h48 h49)
          clear hgood hown hb h48 h49
          go_wp2
          go_ret2
          exact ⟨.slice none 0 0, two_ret HR.out, by rw [HR.out]; exact ⟨none, 0, rfl, Nat.le_refl _, by unfold maxLen; omega, fun h => by simp at h⟩, HB.out⟩
    · obtain rfl : k = s.size := by omega
      have HR := Lib.hid (bitsR_good hgood)
      have HO := Lib.hid hown
      clear hgood hown hb
      go_wp2
      go_ret2
      refine ⟨_, two_ret HR.out, ?_, HB.out⟩
      rw [HR.out]
      exact bools_of_owned (B := w.heap.size) (by rw [bitsTo_len]; exact HO.out)

theorem refText_any (bs : List Bool) (v : Value) (w : World) (hv : Bools w v bs) (hm : bs.length ≤ 2000) :
    Calls Tryd.prog 25 #[v] w fun e w' => e = .returned (.string (textS bs)) ∧ w = w' := by
  obtain ⟨a, cap, rfl, hc1, hc2, hcell⟩ := hv
  unfold maxLen at hc2
  obtain ⟨n, hn⟩ : ∃ n, n = bs.length := ⟨_, rfl⟩
  rw [← hn]
  have HN := Lib.hid hn
  have HC := Lib.hid hcell
  have hn1 : n ≤ 2000 := by omega
  have hn2 : n ≤ cap := by omega
  clear hcell hn hm hc1
  go_enter Tryd.func25, Tryd.ntmps25
  go_wp2
  go_loop [3, 4] (fun t i => ∃ (k : Nat) (l : List UInt8), k ≤ n ∧ i = .int .i64 k ∧ l.length = k ∧ l = (bs.take k).map sign ∧ t = .string ⟨l.toArray⟩) (fun _ i => n - (intOf i).toNat)
  case atStart => exact ⟨0, [], Nat.zero_le _, rfl, rfl, by simp, rfl⟩
  case round =>
    obtain ⟨k, l, hk, rfl, hlk, hl, rfl⟩ := hrel
    have HL := Lib.hid hl
    have HK := Lib.hid hlk
    have hl1 : l.length ≤ k := by omega
    clear hl hlk
    by_cases h1 : k < n
    · have h1' := h1
      rw [HN.out] at h1'
      obtain ⟨b, off, rfl, hbs, hcs⟩ := HC.out (by omega)
      have hc := hcs k h1'
      have hts : bs.take (k + 1) = bs.take k ++ [bs.getD k false] := by
        rw [List.take_succ_eq_append_getElem h1']; simp [List.getD, h1']
      have HT := Lib.hid hts
      clear hcs h1' hts
      by_cases hbit : bs.getD k false = true
      · rw [hbit] at hc
        have HB := Lib.hid hbit
        clear hbit
        go_wp2
        go_round
        case rel => exact ⟨k + 1, l ++ [49], by omega, by go_num, by simp [HK.out], by rw [HT.out, HB.out, List.map_append, ← HL.out]; rfl, by rw [str_snoc]⟩
        case measure => simp [intOf]; omega
      · have hbit' : bs.getD k false = false := by simpa using hbit
        rw [hbit'] at hc
        have HB := Lib.hid hbit'
        clear hbit hbit'
        go_wp2
        go_round
        case rel => exact ⟨k + 1, l ++ [48], by omega, by go_num, by simp [HK.out], by rw [HT.out, HB.out, List.map_append, ← HL.out]; rfl, by rw [str_snoc]⟩
        case measure => simp [intOf]; omega
    · go_wp2
      go_ret
      refine ⟨?_, rfl⟩
      have e : l = bs.map sign := by rw [HL.out, List.take_of_length_le (by rw [← HN.out]; omega)]
      rw [e]
      rfl
end Go.Proofs.YtfjllaemmmhjnaaDoor.oct
