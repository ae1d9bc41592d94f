/- The walk of lit's Sorted, by the library's three contracts. -/
import Derived.Test.YtjmiclgagjkooaaDoorI
import Derived.Lib.OwnBridge
import Derived.Lib.AppendIntMem
namespace Go.Proofs.YtjmiclgagjkooaaDoor.lits
open Go.RowKit Go.Sort
open Go.Proofs.YtjmiclgagjkooaaDoor.fns

/-- a new slice that reads as these numbers is handed back, and below B all is as it was -/
def GotInts (B : Nat) (w : World) (zs : List Int) (e : Ending) (w' : World) : Prop := ∃ v, e = .returned v ∧ Ints w' v zs ∧ Below B w w'

abbrev inOrder (zs : List Int) : List Int := zs.mergeSort fun x y => decide (x ≤ y)
theorem sort_at (zs : List Int) (n g cap B : Nat) (w : World) (hn : zs.length = n) (hH : Holds (Value.int .i64) w g 0 zs.toArray) (hg : g < w.heap.size) (hB : B ≤ g) (hz : n < 4611686018427387904) :
    Calls Tryd.prog 28 #[.slice (some ⟨g, 0, none⟩) n cap] w fun e w' => e = .returned (.tuple #[]) ∧ Holds (Value.int .i64) w' g 0 (inOrder zs).toArray ∧ Below B w w' := by
  subst hn
  refine (Tryd.slices_Sort_int g 0 cap zs w hH hg hz).mono ?_
  rintro e w' ⟨rfl, k, os, rfl⟩
  have h1 : Holds (Value.int .i64) (putRow (Value.int .i64) (Go.Sort.ahead w k) g 0 (inOrder zs).toArray) g 0 (inOrder zs).toArray := holds_putRow _ _ _ _ zs.toArray _ (holds_ahead _ _ _ _ _ _ hH) (by simp)
  refine ⟨rfl, holds_grow _ _ os _ _ _ (by simpa [putRow, mapBlock, Go.Sort.ahead] using hg) h1, ?_⟩
  have b1 : Below B w (putRow (Value.int .i64) (Go.Sort.ahead w k) g 0 (inOrder zs).toArray) := Lib.below_putRow (Below.refl _ _) hB
  refine b1.trans ⟨rfl, rfl, rfl, ?_, fun j hj => heap_grow_old _ os ?_⟩
  · show _ ≤ (_ ++ os).size; rw [Array.size_append]; exact Nat.le_add_right _ _
  · exact Nat.lt_of_lt_of_le hj (Nat.le_trans (by omega : B ≤ w.heap.size) b1.size)
theorem compact_at (zs : List Int) (n g cap B : Nat) (w : World) (hn : zs.length = n) (hH : Holds (Value.int .i64) w g 0 (inOrder zs).toArray) (hg : g < w.heap.size) (hB : B ≤ g) (hz : n ≤ 9223372036854775807) (hc : n ≤ cap) (hm : cap ≤ maxLen) :
    Calls Tryd.prog 29 #[.slice (some ⟨g, 0, none⟩) n cap] w (GotInts B w (srt zs)) := by
  have hl : (inOrder zs).length = n := by rw [mergeSort_len, hn]
  subst hl
  refine (Tryd.slices_Compact_int g 0 cap (inOrder zs) w hH hz hc).mono ?_
  rintro e w' ⟨rfl, q, rfl⟩
  have hle : (srt zs).length ≤ (inOrder zs).length := Lib.compact_length_le _
  refine ⟨_, rfl, ⟨some ⟨g, 0, none⟩, cap, rfl, by omega, hm, fun hp => ⟨g, 0, rfl, by simpa [putRow, mapBlock, Go.Sort.ahead] using hg, fun i hi => ?_⟩⟩, Lib.below_putRow (Below.refl _ _) hB⟩
  have h1 := holds_putRow (Value.int .i64) (Go.Sort.ahead w q) g 0 (inOrder zs).toArray (Lib.compact (inOrder zs) ++ List.replicate ((inOrder zs).length - (Lib.compact (inOrder zs)).length) 0).toArray (holds_ahead _ _ _ _ _ _ hH) (by simp only [List.size_toArray, List.length_append, List.length_replicate]; exact Nat.add_sub_cancel' hle)
  have hi' : i < (Lib.compact (inOrder zs)).length := hi
  rw [(h1 i (by simp; omega)).1]
  rw [getElem!_pos _ i (by simp; omega)]
  simp only [List.getElem_toArray]
  rw [List.getElem_append_left hi']
  show some (Value.int .i64 ((srt zs)[i])) = _
  rw [getD_of hi]
  rfl

theorem Sorted_any (zs : List Int) (v : Value) (w : World) (hv : Ints w v zs) (hz : zs.length * 8 ≤ 140737488355328) :
    Calls Tryd.prog 17 #[v] w (GotInts w.heap.size w (srt zs)) := by
  obtain ⟨a, cap, rfl, h1, h2, h3⟩ := hv
  by_cases h0 : 0 < zs.length
  · obtain ⟨b, off, rfl, -, hc⟩ := h3 h0
    have HC := Lib.hid (Tryd.slices_Clone_int b off zs.length cap zs w (Nat.le_refl _) hz hc)
    rw [List.take_length] at HC
    obtain ⟨n, hn⟩ : ∃ n, zs.length = n := ⟨_, rfl⟩
    rw [hn] at HC hz ⊢
    have HN := Lib.hid hn
    clear hc h3 h0 hn h1 h2
    go_enter Tryd.func17, Tryd.ntmps17
    go_wp2_with fail
    go_at_call 27; refine HC.out.mono ?_; rintro e w1 ⟨v1, rfl, hown, hne, b1⟩
    obtain ⟨g, cap1, rfl, hg0, hg1, hg2, hg3, -, hH⟩ := Lib.holds_of_ownsRow hown hne
    have HH := Lib.hid hH
    have H0 := Lib.hid hg0
    have H1 := Lib.hid hg1
    have H2 := Lib.hid hg2
    have H3 := Lib.hid hg3
    have B1 := Lib.hid b1
    clear hH hown hne b1 HC hg0 hg1 hg2 hg3
    go_wp2_with fail
    go_at_call 28; refine (sort_at zs n g cap1 w.heap.size w1 HN.out HH.out H1.out H0.out (by omega)).mono ?_; rintro e w2 ⟨rfl, hH2, b2⟩
    have HH2 := Lib.hid hH2
    have B2 := Lib.hid b2
    clear hH2 b2
    go_wp2_with fail
    go_at_call 29; refine (compact_at zs n g cap1 w.heap.size w2 HN.out HH2.out (Nat.lt_of_lt_of_le H1.out B2.out.size) H0.out (by omega) H2.out H3.out).mono ?_; rintro e w3 ⟨v3, rfl, hi3, b3⟩
    have HI := Lib.hid hi3
    have B3 := Lib.hid b3
    clear hi3 b3
    go_wp2_with fail
    go_ret
    exact ⟨v3, rfl, HI.out, B1.out.trans (B2.out.trans B3.out)⟩
  · obtain rfl : zs = [] := List.length_eq_zero_iff.1 (by omega)
    clear h3 h0
    rw [srt_nil]
    cases a with
    | none =>
      have HC := Lib.hid (Tryd.slices_Clone_int_nil 0 cap w)
      go_enter Tryd.func17, Tryd.ntmps17
      go_wp2_with fail
      go_at_call 27; refine HC.out.mono ?_; rintro e w' ⟨rfl, rfl⟩
      go_wp2_with fail
      go_at_call 28; refine (Tryd.slices_Sort_int_none none 0 _).mono ?_; rintro e w' ⟨rfl, rfl⟩
      go_wp2_with fail
      go_at_call 29; refine (Tryd.slices_Compact_int_empty none 0 _).mono ?_; rintro e w' ⟨rfl, rfl⟩
      go_wp2_with fail
      go_ret
      exact ⟨_, rfl, ints_empty _ _ _ (by unfold maxLen; omega), Below.refl _ _⟩
    | some x =>
      have HC := Lib.hid (Tryd.slices_Clone_int_zero x cap w)
      go_enter Tryd.func17, Tryd.ntmps17
      go_wp2_with fail
      go_at_call 27; refine HC.out.mono ?_; rintro e w1 ⟨v1, rfl, hown, hne, b1⟩
      obtain ⟨g, cap1, rfl, -, -, -, hg3, -, -⟩ := Lib.holds_of_ownsRow (zs := ([] : List Int)) (enc := Value.int .i64) hown hne
      have H3 := Lib.hid hg3
      have B1 := Lib.hid b1
      clear hown hne b1 hg3
      go_wp2_with fail
      go_at_call 28; refine (Tryd.slices_Sort_int_none _ _ _).mono ?_; rintro e w' ⟨rfl, rfl⟩
      go_wp2_with fail
      go_at_call 29; refine (Tryd.slices_Compact_int_empty _ _ _).mono ?_; rintro e w' ⟨rfl, rfl⟩
      go_wp2_with fail
      go_ret
      exact ⟨_, rfl, ints_empty _ _ _ H3.out, B1.out⟩
end Go.Proofs.YtjmiclgagjkooaaDoor.lits
