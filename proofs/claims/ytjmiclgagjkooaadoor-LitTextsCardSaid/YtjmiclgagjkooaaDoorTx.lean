/- The walk of the statement on texts of literals. -/
import Derived.Test.YtjmiclgagjkooaaDoorTl
namespace Go.Proofs.YtjmiclgagjkooaaDoor.lits
open Go.RowKit Go.PlainAid
open Go.Proofs.YtjmiclgagjkooaaDoor.fns
open Go.Proofs.YtjmiclgagjkooaaDoor.oct

theorem Read_of {t : ByteArray} {a e : Int} (h : readS t = (a, e)) (w : World) (hs : t.size ≤ maxLen) :
    Calls Tryd.prog 23 #[.string t] w fun r w' => r = .returned (.tuple #[.int .i64 a, .int .i64 e]) ∧ w = w' := by
  have := Read_any t w hs; rw [h] at this; exact this
theorem refRead_of {t : ByteArray} {a e : Int} (h : readS t = (a, e)) (w : World) (hs : t.size ≤ maxLen) :
    Calls Tryd.prog 24 #[.string t] w fun r w' => r = .returned (.tuple #[.int .i64 a, .int .i64 e]) ∧ w = w' := by
  have := refRead_any t w hs; rw [h] at this; exact this
theorem Text_is {a : Int} {t : ByteArray} (h : textB a = t) (w : World) (hT : Tab w) :
    Calls Tryd.prog 25 #[.int .i64 a] w fun e w' => e = .returned (.string t) ∧ Below w.heap.size w w' := by
  have := Text_any a w hT; rw [h] at this; exact this
theorem read_cases (t : ByteArray) : (∃ a, readS t = (a, 0)) ∨ readS t = (0, 2) := by
  unfold readS readR
  by_cases h : (natAt (rest t) 0).2.2 = 0 ∧ (natAt (rest t) 0).2.1 = (rest t).size ∧ (natAt (rest t) 0).1 ≤ 16777216
  · rw [if_pos h]; exact .inl ⟨_, rfl⟩
  · rw [if_neg h]; exact .inr rfl
theorem text_small (l : Int) : (textB l).size ≤ maxLen := by have := text_len l; unfold maxLen; omega
theorem cut_size (s : ByteArray) (n : Nat) (hn : n ≤ maxLen) : (s.extract 0 n).size ≤ maxLen := by
  rw [ByteArray.size_extract]; omega

set_option maxHeartbeats 1000000 in
theorem texts_big (s : ByteArray) (l : Int) (w : World) (hs : s.size ≤ maxLen) (h : 200 < s.size) (hT : Tab w) :
    Calls Tryd.prog 5 #[.int .i64 l, .string s] w fun e w' => e = .returned (.bool true) ∧ Below w.heap.size w w' := by
  have hs' := hs
  unfold maxLen at hs'
  rcases read_cases (s.extract 0 200) with ⟨a, hA⟩ | hA
  · have HX := Lib.hid (text_read _ _ hA).1
    have HA := Lib.hid hA
    clear hA
    cases hg : goodB l with
    | false =>
      have HG := Lib.hid hg
      have HL := Lib.hid (read_none hg)
      clear hg
      go_enter Tryd.func5, Tryd.ntmps5
      go_wp2_with fail
      go_at_call 23; refine (Read_of HA.out _ (cut_size s 200 (by decide))).mono ?_; rintro e w' ⟨rfl, rfl⟩
      go_wp2_with fail
      go_at_call 24; refine (refRead_of HA.out _ (cut_size s 200 (by decide))).mono ?_; rintro e w' ⟨rfl, rfl⟩
      go_wp2_with fail
      go_at_call 25; refine (Text_any _ _ hT).mono ?_; rintro e w1 ⟨rfl, b1⟩
      go_wp2_with fail
      go_at_call 26; refine (refText_any _ _).mono ?_; rintro e w2 ⟨rfl, b2⟩
      go_wp2_with fail
      go_at_call 25; refine (Text_any _ _ ((hT.on b1).on b2)).mono ?_; rintro e w3 ⟨rfl, b3⟩
      go_wp2_with fail
      go_at_call 23; refine (Read_of HL.out _ (text_small _)).mono ?_; rintro e w' ⟨rfl, rfl⟩
      go_wp2_with fail
      go_at_call 9; refine (refGood_no HG.out _).mono ?_; rintro e w' ⟨rfl, rfl⟩
      go_wp2_with fail
      go_at_call 25; refine (Text_is HX.out _ (((hT.on b1).on b2).on b3)).mono ?_; rintro e w4 ⟨rfl, b4⟩
      go_wp2_with fail
      go_at_call 15; refine (lives_any _ ((((hT.on b1).on b2).on b3).on b4)).mono ?_; rintro e w5 ⟨rfl, b5⟩
      go_wp2_with fail
      go_ret
      exact ⟨rfl, b1.trans ((b2.mono b1.size).trans ((b3.mono (Nat.le_trans b1.size b2.size)).trans ((b4.mono (Nat.le_trans b1.size (Nat.le_trans b2.size b3.size))).trans (b5.mono (Nat.le_trans b1.size (Nat.le_trans b2.size (Nat.le_trans b3.size b4.size)))))))⟩
    | true =>
      have HG := Lib.hid hg
      have HL := Lib.hid (read_text hg)
      clear hg
      go_enter Tryd.func5, Tryd.ntmps5
      go_wp2_with fail
      go_at_call 23; refine (Read_of HA.out _ (cut_size s 200 (by decide))).mono ?_; rintro e w' ⟨rfl, rfl⟩
      go_wp2_with fail
      go_at_call 24; refine (refRead_of HA.out _ (cut_size s 200 (by decide))).mono ?_; rintro e w' ⟨rfl, rfl⟩
      go_wp2_with fail
      go_at_call 25; refine (Text_any _ _ hT).mono ?_; rintro e w1 ⟨rfl, b1⟩
      go_wp2_with fail
      go_at_call 26; refine (refText_any _ _).mono ?_; rintro e w2 ⟨rfl, b2⟩
      go_wp2_with fail
      go_at_call 25; refine (Text_any _ _ ((hT.on b1).on b2)).mono ?_; rintro e w3 ⟨rfl, b3⟩
      go_wp2_with fail
      go_at_call 23; refine (Read_of HL.out _ (text_small _)).mono ?_; rintro e w' ⟨rfl, rfl⟩
      go_wp2_with fail
      go_at_call 9; refine (refGood_yes HG.out _).mono ?_; rintro e w' ⟨rfl, rfl⟩
      go_wp2_with fail
      go_at_call 25; refine (Text_is HX.out _ (((hT.on b1).on b2).on b3)).mono ?_; rintro e w4 ⟨rfl, b4⟩
      go_wp2_with fail
      go_at_call 15; refine (lives_any _ ((((hT.on b1).on b2).on b3).on b4)).mono ?_; rintro e w5 ⟨rfl, b5⟩
      go_wp2_with fail
      go_ret
      exact ⟨rfl, b1.trans ((b2.mono b1.size).trans ((b3.mono (Nat.le_trans b1.size b2.size)).trans ((b4.mono (Nat.le_trans b1.size (Nat.le_trans b2.size b3.size))).trans (b5.mono (Nat.le_trans b1.size (Nat.le_trans b2.size (Nat.le_trans b3.size b4.size)))))))⟩
  · have HA := Lib.hid hA
    clear hA
    cases hg : goodB l with
    | false =>
      have HG := Lib.hid hg
      have HL := Lib.hid (read_none hg)
      clear hg
      go_enter Tryd.func5, Tryd.ntmps5
      go_wp2_with fail
      go_at_call 23; refine (Read_of HA.out _ (cut_size s 200 (by decide))).mono ?_; rintro e w' ⟨rfl, rfl⟩
      go_wp2_with fail
      go_at_call 24; refine (refRead_of HA.out _ (cut_size s 200 (by decide))).mono ?_; rintro e w' ⟨rfl, rfl⟩
      go_wp2_with fail
      go_at_call 25; refine (Text_any _ _ hT).mono ?_; rintro e w1 ⟨rfl, b1⟩
      go_wp2_with fail
      go_at_call 26; refine (refText_any _ _).mono ?_; rintro e w2 ⟨rfl, b2⟩
      go_wp2_with fail
      go_at_call 25; refine (Text_any _ _ ((hT.on b1).on b2)).mono ?_; rintro e w3 ⟨rfl, b3⟩
      go_wp2_with fail
      go_at_call 23; refine (Read_of HL.out _ (text_small _)).mono ?_; rintro e w' ⟨rfl, rfl⟩
      go_wp2_with fail
      go_at_call 9; refine (refGood_no HG.out _).mono ?_; rintro e w' ⟨rfl, rfl⟩
      go_wp2_with fail
      go_at_call 15; refine (lives_any _ (((hT.on b1).on b2).on b3)).mono ?_; rintro e w4 ⟨rfl, b4⟩
      go_wp2_with fail
      go_ret
      exact ⟨rfl, b1.trans ((b2.mono b1.size).trans ((b3.mono (Nat.le_trans b1.size b2.size)).trans (b4.mono (Nat.le_trans b1.size (Nat.le_trans b2.size b3.size)))))⟩
    | true =>
      have HG := Lib.hid hg
      have HL := Lib.hid (read_text hg)
      clear hg
      go_enter Tryd.func5, Tryd.ntmps5
      go_wp2_with fail
      go_at_call 23; refine (Read_of HA.out _ (cut_size s 200 (by decide))).mono ?_; rintro e w' ⟨rfl, rfl⟩
      go_wp2_with fail
      go_at_call 24; refine (refRead_of HA.out _ (cut_size s 200 (by decide))).mono ?_; rintro e w' ⟨rfl, rfl⟩
      go_wp2_with fail
      go_at_call 25; refine (Text_any _ _ hT).mono ?_; rintro e w1 ⟨rfl, b1⟩
      go_wp2_with fail
      go_at_call 26; refine (refText_any _ _).mono ?_; rintro e w2 ⟨rfl, b2⟩
      go_wp2_with fail
      go_at_call 25; refine (Text_any _ _ ((hT.on b1).on b2)).mono ?_; rintro e w3 ⟨rfl, b3⟩
      go_wp2_with fail
      go_at_call 23; refine (Read_of HL.out _ (text_small _)).mono ?_; rintro e w' ⟨rfl, rfl⟩
      go_wp2_with fail
      go_at_call 9; refine (refGood_yes HG.out _).mono ?_; rintro e w' ⟨rfl, rfl⟩
      go_wp2_with fail
      go_at_call 15; refine (lives_any _ (((hT.on b1).on b2).on b3)).mono ?_; rintro e w4 ⟨rfl, b4⟩
      go_wp2_with fail
      go_ret
      exact ⟨rfl, b1.trans ((b2.mono b1.size).trans ((b3.mono (Nat.le_trans b1.size b2.size)).trans (b4.mono (Nat.le_trans b1.size (Nat.le_trans b2.size b3.size)))))⟩

set_option maxHeartbeats 1000000 in
theorem texts_small (s : ByteArray) (l : Int) (w : World) (hs : s.size ≤ maxLen) (h : s.size ≤ 200) (hT : Tab w) :
    Calls Tryd.prog 5 #[.int .i64 l, .string s] w fun e w' => e = .returned (.bool true) ∧ Below w.heap.size w w' := by
  have hs' := hs
  unfold maxLen at hs'
  rcases read_cases s with ⟨a, hA⟩ | hA
  · have HX := Lib.hid (text_read _ _ hA).1
    have HA := Lib.hid hA
    clear hA
    cases hg : goodB l with
    | false =>
      have HG := Lib.hid hg
      have HL := Lib.hid (read_none hg)
      clear hg
      go_enter Tryd.func5, Tryd.ntmps5
      go_wp2_with fail
      go_at_call 23; refine (Read_of HA.out _ hs).mono ?_; rintro e w' ⟨rfl, rfl⟩
      go_wp2_with fail
      go_at_call 24; refine (refRead_of HA.out _ hs).mono ?_; rintro e w' ⟨rfl, rfl⟩
      go_wp2_with fail
      go_at_call 25; refine (Text_any _ _ hT).mono ?_; rintro e w1 ⟨rfl, b1⟩
      go_wp2_with fail
      go_at_call 26; refine (refText_any _ _).mono ?_; rintro e w2 ⟨rfl, b2⟩
      go_wp2_with fail
      go_at_call 25; refine (Text_any _ _ ((hT.on b1).on b2)).mono ?_; rintro e w3 ⟨rfl, b3⟩
      go_wp2_with fail
      go_at_call 23; refine (Read_of HL.out _ (text_small _)).mono ?_; rintro e w' ⟨rfl, rfl⟩
      go_wp2_with fail
      go_at_call 9; refine (refGood_no HG.out _).mono ?_; rintro e w' ⟨rfl, rfl⟩
      go_wp2_with fail
      go_at_call 25; refine (Text_is HX.out _ (((hT.on b1).on b2).on b3)).mono ?_; rintro e w4 ⟨rfl, b4⟩
      go_wp2_with fail
      go_at_call 15; refine (lives_any _ ((((hT.on b1).on b2).on b3).on b4)).mono ?_; rintro e w5 ⟨rfl, b5⟩
      go_wp2_with fail
      go_ret
      exact ⟨rfl, b1.trans ((b2.mono b1.size).trans ((b3.mono (Nat.le_trans b1.size b2.size)).trans ((b4.mono (Nat.le_trans b1.size (Nat.le_trans b2.size b3.size))).trans (b5.mono (Nat.le_trans b1.size (Nat.le_trans b2.size (Nat.le_trans b3.size b4.size)))))))⟩
    | true =>
      have HG := Lib.hid hg
      have HL := Lib.hid (read_text hg)
      clear hg
      go_enter Tryd.func5, Tryd.ntmps5
      go_wp2_with fail
      go_at_call 23; refine (Read_of HA.out _ hs).mono ?_; rintro e w' ⟨rfl, rfl⟩
      go_wp2_with fail
      go_at_call 24; refine (refRead_of HA.out _ hs).mono ?_; rintro e w' ⟨rfl, rfl⟩
      go_wp2_with fail
      go_at_call 25; refine (Text_any _ _ hT).mono ?_; rintro e w1 ⟨rfl, b1⟩
      go_wp2_with fail
      go_at_call 26; refine (refText_any _ _).mono ?_; rintro e w2 ⟨rfl, b2⟩
      go_wp2_with fail
      go_at_call 25; refine (Text_any _ _ ((hT.on b1).on b2)).mono ?_; rintro e w3 ⟨rfl, b3⟩
      go_wp2_with fail
      go_at_call 23; refine (Read_of HL.out _ (text_small _)).mono ?_; rintro e w' ⟨rfl, rfl⟩
      go_wp2_with fail
      go_at_call 9; refine (refGood_yes HG.out _).mono ?_; rintro e w' ⟨rfl, rfl⟩
      go_wp2_with fail
      go_at_call 25; refine (Text_is HX.out _ (((hT.on b1).on b2).on b3)).mono ?_; rintro e w4 ⟨rfl, b4⟩
      go_wp2_with fail
      go_at_call 15; refine (lives_any _ ((((hT.on b1).on b2).on b3).on b4)).mono ?_; rintro e w5 ⟨rfl, b5⟩
      go_wp2_with fail
      go_ret
      exact ⟨rfl, b1.trans ((b2.mono b1.size).trans ((b3.mono (Nat.le_trans b1.size b2.size)).trans ((b4.mono (Nat.le_trans b1.size (Nat.le_trans b2.size b3.size))).trans (b5.mono (Nat.le_trans b1.size (Nat.le_trans b2.size (Nat.le_trans b3.size b4.size)))))))⟩
  · have HA := Lib.hid hA
    clear hA
    cases hg : goodB l with
    | false =>
      have HG := Lib.hid hg
      have HL := Lib.hid (read_none hg)
      clear hg
      go_enter Tryd.func5, Tryd.ntmps5
      go_wp2_with fail
      go_at_call 23; refine (Read_of HA.out _ hs).mono ?_; rintro e w' ⟨rfl, rfl⟩
      go_wp2_with fail
      go_at_call 24; refine (refRead_of HA.out _ hs).mono ?_; rintro e w' ⟨rfl, rfl⟩
      go_wp2_with fail
      go_at_call 25; refine (Text_any _ _ hT).mono ?_; rintro e w1 ⟨rfl, b1⟩
      go_wp2_with fail
      go_at_call 26; refine (refText_any _ _).mono ?_; rintro e w2 ⟨rfl, b2⟩
      go_wp2_with fail
      go_at_call 25; refine (Text_any _ _ ((hT.on b1).on b2)).mono ?_; rintro e w3 ⟨rfl, b3⟩
      go_wp2_with fail
      go_at_call 23; refine (Read_of HL.out _ (text_small _)).mono ?_; rintro e w' ⟨rfl, rfl⟩
      go_wp2_with fail
      go_at_call 9; refine (refGood_no HG.out _).mono ?_; rintro e w' ⟨rfl, rfl⟩
      go_wp2_with fail
      go_at_call 15; refine (lives_any _ (((hT.on b1).on b2).on b3)).mono ?_; rintro e w4 ⟨rfl, b4⟩
      go_wp2_with fail
      go_ret
      exact ⟨rfl, b1.trans ((b2.mono b1.size).trans ((b3.mono (Nat.le_trans b1.size b2.size)).trans (b4.mono (Nat.le_trans b1.size (Nat.le_trans b2.size b3.size)))))⟩
    | true =>
      have HG := Lib.hid hg
      have HL := Lib.hid (read_text hg)
      clear hg
      go_enter Tryd.func5, Tryd.ntmps5
      go_wp2_with fail
      go_at_call 23; refine (Read_of HA.out _ hs).mono ?_; rintro e w' ⟨rfl, rfl⟩
      go_wp2_with fail
      go_at_call 24; refine (refRead_of HA.out _ hs).mono ?_; rintro e w' ⟨rfl, rfl⟩
      go_wp2_with fail
      go_at_call 25; refine (Text_any _ _ hT).mono ?_; rintro e w1 ⟨rfl, b1⟩
      go_wp2_with fail
      go_at_call 26; refine (refText_any _ _).mono ?_; rintro e w2 ⟨rfl, b2⟩
      go_wp2_with fail
      go_at_call 25; refine (Text_any _ _ ((hT.on b1).on b2)).mono ?_; rintro e w3 ⟨rfl, b3⟩
      go_wp2_with fail
      go_at_call 23; refine (Read_of HL.out _ (text_small _)).mono ?_; rintro e w' ⟨rfl, rfl⟩
      go_wp2_with fail
      go_at_call 9; refine (refGood_yes HG.out _).mono ?_; rintro e w' ⟨rfl, rfl⟩
      go_wp2_with fail
      go_at_call 15; refine (lives_any _ (((hT.on b1).on b2).on b3)).mono ?_; rintro e w4 ⟨rfl, b4⟩
      go_wp2_with fail
      go_ret
      exact ⟨rfl, b1.trans ((b2.mono b1.size).trans ((b3.mono (Nat.le_trans b1.size b2.size)).trans (b4.mono (Nat.le_trans b1.size (Nat.le_trans b2.size b3.size)))))⟩

theorem texts_walk (s : ByteArray) (l : Int) (w : World) (hs : s.size ≤ maxLen) (hT : Tab w) :
    Calls Tryd.prog 5 #[.int .i64 l, .string s] w fun e w' => e = .returned (.bool true) ∧ Below w.heap.size w w' := by
  by_cases h : 200 < s.size
  · exact texts_big s l w hs h hT
  · exact texts_small s l w hs (by omega) hT
end Go.Proofs.YtjmiclgagjkooaaDoor.lits
