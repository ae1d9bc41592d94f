/- The walks on truths and signs: first part: signs of truths. -/
import Derived.Test.YtfjllaemmmhjnaaDoorW6
namespace Go.Proofs.YtfjllaemmmhjnaaDoor.oct
open Go.RowKit Go.PlainAid
open Go.Proofs.YtfjllaemmmhjnaaDoor.fns

/-- the sign of a truth -/
def sign (b : Bool) : UInt8 := if b then 49 else 48
def textS (bs : List Bool) : ByteArray := ⟨(bs.map sign).toArray⟩
/-- v is a slice that reads as these truths -/
def Bools (w : World) (v : Value) (bs : List Bool) : Prop :=
  ∃ (a : Option Addr) (cap : Nat), v = .slice a bs.length cap ∧ bs.length ≤ cap ∧ cap ≤ maxLen ∧
    (0 < bs.length → ∃ b off, a = some ⟨b, off, none⟩ ∧ b < w.heap.size ∧ ∀ i, i < bs.length → w.cell? ⟨b, off + i, none⟩ = some (.bool (bs.getD i false)))

/-- the cells of a row of bytes that is filled so far -/
def filled (bs : List Bool) (k : Nat) : List Value := Lib.byteCells ((bs.take k).map sign) ++ List.replicate (bs.length - k) (.int .u8 0)
theorem filled_zero (bs : List Bool) : filled bs 0 = List.replicate bs.length (.int .u8 0) := by simp [filled, Lib.byteCells]
theorem filled_all (bs : List Bool) : filled bs bs.length = Lib.byteCells (bs.map sign) := by simp [filled]
theorem filled_len (bs : List Bool) (k : Nat) (h : k ≤ bs.length) : (filled bs k).length = bs.length := by simp [filled, Lib.byteCells]; omega
theorem filled_set (bs : List Bool) (k : Nat) (h : k < bs.length) (z : Int) (hz : z = ((sign (bs.getD k false)).toNat : Int)) : (filled bs k).set k (.int .u8 z) = filled bs (k + 1) := by
  subst hz
  apply List.ext_getElem
  · rw [List.length_set, filled_len _ _ (by omega), filled_len _ _ (by omega)]
  · intro j h1 h2
    rw [List.length_set, filled_len _ _ (by omega)] at h1
    have hg : bs[k]? = some (bs.getD k false) := by simp [List.getD, h]
    by_cases hj : j = k
    · subst hj
      simp [filled, Lib.byteCells, List.getElem_append, h]
      intro hh; omega
    · rw [List.getElem_set_ne (by omega)]
      simp only [filled, Lib.byteCells, List.getElem_append, List.length_map, List.length_take, List.getElem_map, List.getElem_take, List.getElem_replicate]
      by_cases hjk : j < k
      · rw [dif_pos (by omega), dif_pos (by omega)]
      · rw [dif_neg (by omega), dif_neg (by omega)]
theorem filled_set2 (bs : List Bool) (k : Nat) (h : k < bs.length) (y z : Int) (hz : z = ((sign (bs.getD k false)).toNat : Int)) : ((filled bs k).set k (.int .u8 y)).set k (.int .u8 z) = filled bs (k + 1) := by
  rw [List.set_set]; exact filled_set bs k h z hz

theorem made_one (z : Value) (n : Nat) : (madeCells #[z] n).toList = List.replicate n z := by
  simp [madeCells, Nat.mod_one, List.map_const']

theorem text_any (bs : List Bool) (v : Value) (w : World) (hv : Bools w v bs) (hm : bs.length ≤ 2000) :
    Calls Tryd.prog 23 #[v] w fun e w' => e = .returned (.string (textS bs)) ∧ Below w.heap.size w w' := by
  obtain ⟨i0, hi, hz0, hz1, hz2⟩ := info_parts infoByte
  obtain ⟨a, cap, rfl, hc1, hc2, hcell⟩ := hv
  unfold maxLen at hc2
  obtain ⟨n, hn⟩ : ∃ n, n = bs.length := ⟨_, rfl⟩
  rw [← hn]
  have HN := Lib.hid hn
  have HC := Lib.hid hcell
  have hn1 : n ≤ 2000 := by omega
  have hn2 : n ≤ cap := by omega
  clear hcell hn hm hc1
  go_enter Tryd.func23, Tryd.ntmps23
  go_wp2_with (refine wpList_make_full _ rfl (.tmp 7) (.tmp 7) 52 rfl w.heap.size 5 i0 (.int .u8 0) 1 Tryd.underlying52 hi hz0 hz1 .i64 .i64 _ _ n rfl rfl rfl rfl (by rw [hz2]; omega) (by unfold maxLen; omega) (Nat.le_refl _) ?_)
  intro w1 hown hgrow
  have hb : Below w.heap.size w w1 := (Below.refl _ w).grown hgrow (Nat.le_refl _) (fun k hk => by cases hk)
  rw [show (madeCells #[Value.int IntKind.u8 0] n).toList = filled bs 0 by rw [filled_zero, ← HN.out]; exact made_one _ _] at hown
  clear hgrow
  go_wp2
  go_loopw [11] (fun i wr => ∃ k : Nat, k ≤ n ∧ i = .int .i64 k ∧ wr.ownsRow w.heap.size 5 1 (.slice (some ⟨w.heap.size, 0, none⟩) n n) n (filled bs k) ∧ Below w.heap.size w wr) (fun i _ => n - (intOf i).toNat)
  case atStart => exact ⟨0, Nat.zero_le _, rfl, hown, hb⟩
  case round =>
    clear hown hb
    obtain ⟨k, hk, rfl, hown, hb⟩ := hrel
    by_cases h1 : k < n
    · have h1' := h1
      rw [HN.out] at h1'
      obtain ⟨b, off, rfl, hbs, hcs⟩ := HC.out (by omega)
      have hc := (hb.cell (p := ⟨b, off + k, none⟩) hbs).trans (hcs k h1')
      have hf := hown.frozenAt k
      have hx := hown.cellAt k (by omega)
      have hxs : ∃ u, (filled bs k)[k]? = some u := ⟨_, List.getElem?_eq_getElem (by rw [filled_len _ _ (by omega)]; exact h1')⟩
      obtain ⟨u, hu⟩ := hxs
      rw [hu] at hx
      have hlt : b < w.heap.size := hbs
      have H1 := Lib.hid h1'
      have HO := Lib.hid hown
      have HB := Lib.hid hb
      clear hcs hu h1' hown hb
      by_cases hbit : bs.getD k false = true
      · rw [hbit] at hc
        have HT := Lib.hid hbit
        clear hbit
        go_wp2
        go_roundw
        case rel =>
          have s1 := HO.out.stored k (.int .u8 48)
          have s2 := s1.1.stored k (.int .u8 49)
          rw [filled_set2 bs k H1.out 48 49 (by rw [HT.out]; rfl)] at s2
          exact ⟨k + 1, by omega, by go_num, s2.1, (HB.out.setCell (p := ⟨w.heap.size, k, none⟩) (Nat.le_refl _) _).setCell (p := ⟨w.heap.size, k, none⟩) (Nat.le_refl _) _⟩
        case measure => simp [intOf]; omega
      · have hbit' : bs.getD k false = false := by simpa using hbit
        rw [hbit'] at hc
        have HT := Lib.hid hbit'
        clear hbit hbit'
        go_wp2
        go_roundw
        case rel =>
          have s1 := HO.out.stored k (.int .u8 48)
          rw [filled_set bs k H1.out 48 (by rw [HT.out]; rfl)] at s1
          exact ⟨k + 1, by omega, by go_num, s1.1, HB.out.setCell (p := ⟨w.heap.size, k, none⟩) (Nat.le_refl _) _⟩
        case measure => simp [intOf]; omega
    · obtain rfl : k = n := by omega
      have hl : (bs.map sign).length = k := by rw [List.length_map]; exact HN.out.symm
      have hown' := hown
      rw [HN.out, filled_all] at hown'
      have hcv := run_convert_bytes_back (P := Tryd.prog) wr 52 9 5 ⟨w.heap.size, 0, none⟩ k (bs.map sign) Tryd.underlying52 Tryd.underlying5 Tryd.underlying9 (fun j hj => hown'.cells (g := w.heap.size) rfl j _ (by rw [Lib.byteCells, List.getElem?_map, List.getElem?_eq_getElem hj]; rfl))
      rw [hl] at hcv
      clear hl hown hown'
      go_wp2
      go_ret
      exact ⟨rfl, hb⟩
end Go.Proofs.YtfjllaemmmhjnaaDoor.oct
