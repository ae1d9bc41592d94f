/- The walk of the statement on lines and words. -/
import Derived.Test.YtfjllaemmmhjnaaDoorW12
namespace Go.Proofs.YtfjllaemmmhjnaaDoor.oct
open Go.RowKit Go.PlainAid
open Go.Proofs.YtfjllaemmmhjnaaDoor.fns
set_option linter.unusedVariables false

theorem strs_self (ss : List ByteArray) (v u : Value) (w : World) (hv : Strs w v ss) (hu : Strs w u ss) (hm : ss.length ≤ 2001) :
    Calls Tryd.prog 19 #[v, u] w fun e w' => e = .returned (.bool true) ∧ Below w.heap.size w w' := by
  obtain ⟨b, cap, rfl, hc1, hc2, hlt, hcell⟩ := hv
  obtain ⟨b', cap', rfl, hd1, hd2, hlt', hdell⟩ := hu
  unfold maxLen at hc2 hd2
  obtain ⟨n, hn⟩ : ∃ n, n = ss.length := ⟨_, rfl⟩
  rw [← hn] at hm hc1 hd1 hcell hdell ⊢
  have HC := Lib.hid hcell
  have HD := Lib.hid hdell
  clear hcell hdell hn
  go_enter Tryd.func19, Tryd.ntmps19
  go_wp2
  go_loopw [5] (fun i wr => ∃ (k d : Nat), k ≤ n ∧ i = .int .i64 k ∧ wr = w.drewN d) (fun i _ => n - (intOf i).toNat)
  case atStart => exact ⟨0, 0, Nat.zero_le _, rfl, by simp [World.drewN_zero]⟩
  case round =>
    obtain ⟨k, d, hk, rfl, rfl⟩ := hrel
    by_cases h1 : k < n
    · have hc := HC.out k h1
      have hd := HD.out k h1
      have hki : (k : Int) < (n : Int) := by omega
      generalize ss.getD k ByteArray.empty = x at hc hd
      go_wp2
      go_quiet (fail)
      go_wp2
      refine ⟨⟨k + 1, d + nq, by omega, by go_num, rfl⟩, by simp [intOf]; omega⟩
    · have hf : decide ((k : Int) < (n : Int)) = false := by simp; omega
      go_wp2
      go_ret
      exact ⟨rfl, below_drewN (Below.refl _ _) _⟩

theorem line_parts (s : ByteArray) (a : Int) (w : World) (hs : s.size ≤ 2000) :
    Calls Tryd.prog 16 #[.string s, .int .i64 a] w fun e w' => e = .returned (.tuple #[.string (lineAt s a).1, .int .i64 (lineAt s a).2.1, .int .i64 (lineAt s a).2.2]) ∧ Below w.heap.size w w' := line_any s a w hs
theorem refLine_parts (s : ByteArray) (a : Int) (w : World) (hs : s.size ≤ 2000) :
    Calls Tryd.prog 17 #[.string s, .int .i64 a] w fun e w' => e = .returned (.tuple #[.string (lineAt s a).1, .int .i64 (lineAt s a).2.1, .int .i64 (lineAt s a).2.2]) ∧ w = w' := refLine_any s a w hs

/-- the first k words, with a blank between each two -/
def joinB (s : ByteArray) (k : Nat) : ByteArray := mk (joinL ((wordsL s.data.toList).take k))
theorem joinB_all (s : ByteArray) : joinB s (wordsB s).length = s := by
  unfold joinB wordsB
  rw [List.length_map, List.take_length, join_words, mk_data]
theorem mk_size (l : List UInt8) : (mk l).size = l.length := by unfold mk; show l.toArray.size = _; simp
theorem size_list (s : ByteArray) : s.data.toList.length = s.size := by show _ = s.data.size; exact Array.length_toList
theorem joinB_size (s : ByteArray) (k : Nat) : (joinB s k).size ≤ s.size := by
  have := joinL_take_le (wordsL s.data.toList) k
  rw [join_words, size_list] at this
  unfold joinB
  rw [mk_size]
  exact this
theorem word_at (s : ByteArray) (k : Nat) (h : k < (wordsB s).length) : ∃ l, (wordsL s.data.toList)[k]? = some l ∧ (wordsB s).getD k ByteArray.empty = mk l := by
  have h' : k < (wordsL s.data.toList).length := by simpa [wordsB] using h
  exact ⟨_, List.getElem?_eq_getElem h', by simp [wordsB, List.getD, h']⟩
theorem word_size (s : ByteArray) (k : Nat) (h : k < (wordsB s).length) : ((wordsB s).getD k ByteArray.empty).size ≤ s.size := by
  obtain ⟨l, hl, e⟩ := word_at s k h
  have := word_le (wordsL s.data.toList) l (List.mem_of_getElem? hl)
  rw [join_words, size_list] at this
  rw [e, mk_size]
  exact this
theorem joinB_first (s : ByteArray) (h : 0 < (wordsB s).length) : joinB s 0 ++ (wordsB s).getD 0 ByteArray.empty = joinB s 1 := by
  obtain ⟨l, hl, e⟩ := word_at s 0 h
  rw [e]
  unfold joinB
  cases hw : wordsL s.data.toList with
  | nil => exact absurd hw (wordsL_ne _)
  | cons w r =>
    rw [hw] at hl
    simp at hl
    subst hl
    simp [joinL, mk, ByteArray.mk_append_mk]
theorem joinB_next (s : ByteArray) (k : Nat) (h0 : 0 < k) (h : k < (wordsB s).length) : (joinB s k ++ ⟨#[32]⟩) ++ (wordsB s).getD k ByteArray.empty = joinB s (k + 1) := by
  obtain ⟨l, hl, e⟩ := word_at s k h
  rw [e]
  unfold joinB
  have ht : (wordsL s.data.toList).take (k + 1) = (wordsL s.data.toList).take k ++ [l] := by
    obtain ⟨hk, hh⟩ := List.getElem?_eq_some_iff.1 hl
    rw [List.take_succ_eq_append_getElem hk, hh]
  have hk : k < (wordsL s.data.toList).length := (List.getElem?_eq_some_iff.1 hl).1
  rw [ht, joinL_snoc _ _ (by intro e; rcases List.take_eq_nil_iff.1 e with e | e; omega; rw [e] at hk; simp at hk)]
  simp [mk, ByteArray.mk_append_mk]

set_option maxHeartbeats 800000 in
theorem lines_core (s : ByteArray) (a m : Int) (w : World) (hs : s.size ≤ 2000) (hm : w.cell? ⟨0, 0, none⟩ = some (.int .i64 m)) (hT : Tab w) :
    Calls Tryd.prog 5 #[.string s, .int .i64 a] w fun e w' => e = .returned (.bool true) ∧ Below w.heap.size w w' := by
  have hlt : 0 < w.heap.size := World.block_lt_of_cell? w _ hm
  have HM := Lib.hid hm
  clear hm
  go_enter Tryd.func5, Tryd.ntmps5
  go_wp2_with fail
  go_at_call 16; refine (line_parts _ _ _ hs).mono ?_; rintro e w1 ⟨rfl, b1⟩
  go_wp2_with fail
  go_at_call 17; refine (refLine_parts _ _ _ hs).mono ?_; rintro e w' ⟨rfl, rfl⟩
  have s1 := b1.size
  go_wp2_with fail
  go_at_call 18; refine (words_any s m _ hs ((b1.cell (p := ⟨0, 0, none⟩) hlt).trans HM.out)).mono ?_; rintro e w2 ⟨v, rfl, hv, b2⟩
  have s2 := b2.size
  go_wp2_with fail
  go_at_call 20; refine (refWords_any s _ hs).mono ?_; rintro e w3 ⟨u, rfl, hu, b3⟩
  have s3 := b3.size
  go_wp2_with fail
  go_at_call 19; refine (strs_self (wordsB s) _ _ _ (hv.on b3) hu (by have := wordsB_len s; omega)).mono ?_; rintro e w4 ⟨rfl, b4⟩
  have s4 := b4.size
  have B4 : Below w.heap.size w w4 := ((b1.trans (b2.mono s1)).trans (b3.mono (by omega))).trans (b4.mono (by omega))
  have HV := Lib.hid ((hv.on b3).on b4)
  clear hv hu
  have hv := HV.out
  obtain ⟨b, cap, rfl, hc1, hc2, hb, hcell⟩ := hv
  have HC := Lib.hid hcell
  have hwl := wordsB_len s
  unfold maxLen at hc2
  obtain ⟨n, hn⟩ : ∃ n, n = (wordsB s).length := ⟨_, rfl⟩
  have HN := Lib.hid hn
  rw [← hn] at hc1 hwl
  rw [← hn]
  clear hcell hn
  go_wp2_with fail
  go_loop [12, 13] (fun t i => ∃ (k : Nat) (x : ByteArray), k ≤ n ∧ i = .int .i64 k ∧ x = joinB s k ∧ t = .string x) (fun _ i => n - (intOf i).toNat)
  case atStart => exact ⟨0, ByteArray.empty, Nat.zero_le _, rfl, by simp [joinB, joinL, mk]; rfl, rfl⟩
  case round =>
    obtain ⟨k, x, hk, rfl, hx, rfl⟩ := hrel
    have hxs : x.size ≤ s.size := by rw [hx]; exact joinB_size s k
    have HX := Lib.hid hx
    clear hx
    by_cases h1 : k < n
    · have h1' := h1
      rw [HN.out] at h1'
      have hc := HC.out k h1'
      have hws := word_size s k h1'
      obtain ⟨y, hy⟩ : ∃ y, y = (wordsB s).getD k ByteArray.empty := ⟨_, rfl⟩
      rw [← hy] at hc hws
      have HY := Lib.hid hy
      have H1 := Lib.hid h1'
      clear hy h1'
      by_cases h0 : k = 0
      · subst h0
        have h1b : (1 : Int) ≤ n := by omega
        go_wp2_with fail
        go_round
        case rel => exact ⟨1, x ++ y, by omega, rfl, by rw [HX.out, HY.out]; exact joinB_first s H1.out, rfl⟩
        case measure => simp [intOf]; omega
      · have h0' : 0 < k := by omega
        go_wp2_with fail
        go_round
        case rel => exact ⟨k + 1, x ++ ⟨#[32]⟩ ++ y, by omega, by go_num, by rw [HX.out, HY.out]; exact joinB_next s k h0' H1.out, rfl⟩
        case measure => simp [intOf]; omega
    · obtain rfl : x = s := by
        have hkn : k = n := by omega
        rw [HX.out, hkn, HN.out]
        exact joinB_all s
      have hf : decide ((k : Int) < (n : Int)) = false := by simp; omega
      go_wp2_with fail
      go_at_call 12; refine (lives_any _ (hT.on B4)).mono ?_; rintro e w5 ⟨rfl, b5⟩
      go_wp2_with fail
      go_ret
      exact ⟨rfl, B4.trans (b5.mono (by omega))⟩
set_option maxHeartbeats 800000 in
theorem lines_long (s : ByteArray) (a m : Int) (w : World) (hs0 : s.size ≤ maxLen) (hs1 : 2000 < s.size) (hm : w.cell? ⟨0, 0, none⟩ = some (.int .i64 m)) (hT : Tab w) :
    Calls Tryd.prog 5 #[.string s, .int .i64 a] w fun e w' => e = .returned (.bool true) ∧ Below w.heap.size w w' := by
  have hs : (s.extract 0 2000).size ≤ 2000 := by rw [ByteArray.size_extract]; omega
  unfold maxLen at hs0
  have hlt : 0 < w.heap.size := World.block_lt_of_cell? w _ hm
  have HM := Lib.hid hm
  clear hm
  go_enter Tryd.func5, Tryd.ntmps5
  go_wp2_with fail
  go_at_call 16; refine (line_parts _ _ _ hs).mono ?_; rintro e w1 ⟨rfl, b1⟩
  go_wp2_with fail
  go_at_call 17; refine (refLine_parts _ _ _ hs).mono ?_; rintro e w' ⟨rfl, rfl⟩
  have s1 := b1.size
  go_wp2_with fail
  go_at_call 18; refine (words_any (s.extract 0 2000) m _ hs ((b1.cell (p := ⟨0, 0, none⟩) hlt).trans HM.out)).mono ?_; rintro e w2 ⟨v, rfl, hv, b2⟩
  have s2 := b2.size
  go_wp2_with fail
  go_at_call 20; refine (refWords_any (s.extract 0 2000) _ hs).mono ?_; rintro e w3 ⟨u, rfl, hu, b3⟩
  have s3 := b3.size
  go_wp2_with fail
  go_at_call 19; refine (strs_self (wordsB (s.extract 0 2000)) _ _ _ (hv.on b3) hu (by have := wordsB_len (s.extract 0 2000); omega)).mono ?_; rintro e w4 ⟨rfl, b4⟩
  have s4 := b4.size
  have B4 : Below w.heap.size w w4 := ((b1.trans (b2.mono s1)).trans (b3.mono (by omega))).trans (b4.mono (by omega))
  have HV := Lib.hid ((hv.on b3).on b4)
  clear hv hu
  have hv := HV.out
  obtain ⟨b, cap, rfl, hc1, hc2, hb, hcell⟩ := hv
  have HC := Lib.hid hcell
  have hwl := wordsB_len (s.extract 0 2000)
  unfold maxLen at hc2
  obtain ⟨n, hn⟩ : ∃ n, n = (wordsB (s.extract 0 2000)).length := ⟨_, rfl⟩
  have HN := Lib.hid hn
  rw [← hn] at hc1 hwl
  rw [← hn]
  clear hcell hn
  go_wp2_with fail
  go_loop [12, 13] (fun t i => ∃ (k : Nat) (x : ByteArray), k ≤ n ∧ i = .int .i64 k ∧ x = joinB (s.extract 0 2000) k ∧ t = .string x) (fun _ i => n - (intOf i).toNat)
  case atStart => exact ⟨0, ByteArray.empty, Nat.zero_le _, rfl, by simp [joinB, joinL, mk]; rfl, rfl⟩
  case round =>
    obtain ⟨k, x, hk, rfl, hx, rfl⟩ := hrel
    have hxs : x.size ≤ (s.extract 0 2000).size := by rw [hx]; exact joinB_size (s.extract 0 2000) k
    have HX := Lib.hid hx
    clear hx
    by_cases h1 : k < n
    · have h1' := h1
      rw [HN.out] at h1'
      have hc := HC.out k h1'
      have hws := word_size (s.extract 0 2000) k h1'
      obtain ⟨y, hy⟩ : ∃ y, y = (wordsB (s.extract 0 2000)).getD k ByteArray.empty := ⟨_, rfl⟩
      rw [← hy] at hc hws
      have HY := Lib.hid hy
      have H1 := Lib.hid h1'
      clear hy h1'
      by_cases h0 : k = 0
      · subst h0
        have h1b : (1 : Int) ≤ n := by omega
        go_wp2_with fail
        go_round
        case rel => exact ⟨1, x ++ y, by omega, rfl, by rw [HX.out, HY.out]; exact joinB_first (s.extract 0 2000) H1.out, rfl⟩
        case measure => simp [intOf]; omega
      · have h0' : 0 < k := by omega
        go_wp2_with fail
        go_round
        case rel => exact ⟨k + 1, x ++ ⟨#[32]⟩ ++ y, by omega, by go_num, by rw [HX.out, HY.out]; exact joinB_next (s.extract 0 2000) k h0' H1.out, rfl⟩
        case measure => simp [intOf]; omega
    · obtain rfl : x = (s.extract 0 2000) := by
        have hkn : k = n := by omega
        rw [HX.out, hkn, HN.out]
        exact joinB_all (s.extract 0 2000)
      have hf : decide ((k : Int) < (n : Int)) = false := by simp; omega
      go_wp2_with fail
      go_at_call 12; refine (lives_any _ (hT.on B4)).mono ?_; rintro e w5 ⟨rfl, b5⟩
      go_wp2_with fail
      go_ret
      exact ⟨rfl, B4.trans (b5.mono (by omega))⟩

theorem lines_walk (s : ByteArray) (a m : Int) (w : World) (hs : s.size ≤ maxLen) (hm : w.cell? ⟨0, 0, none⟩ = some (.int .i64 m)) (hT : Tab w) :
    Calls Tryd.prog 5 #[.string s, .int .i64 a] w fun e w' => e = .returned (.bool true) ∧ Below w.heap.size w w' := by
  by_cases h : 2000 < s.size
  · exact lines_long s a m w hs h hm hT
  · exact lines_core s a m w (by omega) hm hT
end Go.Proofs.YtfjllaemmmhjnaaDoor.oct
