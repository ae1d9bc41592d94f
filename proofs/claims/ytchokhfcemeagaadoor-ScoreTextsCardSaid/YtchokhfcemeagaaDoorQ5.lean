/- The walk of the statement on any score's digits. -/
import Derived.Test.YtchokhfcemeagaaDoorQ4
namespace Go.Proofs.YtchokhfcemeagaaDoor.score
open Go.RowKit Go.PlainAid
open Go.Proofs.YtchokhfcemeagaaDoor.fns

theorem Of_nat (b : Nat) (w : World) : Calls Tryd.prog 8 #[.int .u64 b] w fun e w' => e = .returned (.float .f64 b) ∧ w = w' := by
  have := Of_any (b : Int) w; rw [Int.toNat_natCast] at this; exact this
theorem Read_of {s : ByteArray} {x : Nat} {c : Int} (h : ans s.data.toList = (x, c)) (w : World) (hE : Es w) :
    Calls Tryd.prog 4 #[.string s] w fun e w' => e = .returned (.tuple #[.float .f64 x, .int .i64 c]) ∧ Below w.heap.size w w' := by
  have := Read_any s w hE; rw [h] at this; exact this
theorem refRead_of {s : ByteArray} {x : Nat} {c : Int} (h : ans s.data.toList = (x, c)) (w : World) :
    Calls Tryd.prog 5 #[.string s] w fun e w' => e = .returned (.tuple #[.int .u64 x, .int .i64 c]) ∧ Below w.heap.size w w' := by
  have := refRead_any s w; rw [h] at this; exact this
theorem text_back {b : Nat} (h : W64 b) : ans (text b).data.toList = (plain b, 0) := by
  have := ok_text b h
  rw [show (text b).data.toList = tl (plain b) 16 by unfold text; simp, ans_ok this.1, this.2]
theorem text_of {s : ByteArray} {x : Nat} (h : okB s.data.toList = true) (hx : val lo s.data.toList = x) : text x = s := by
  subst hx; exact str_list.2 (text_ans h)
theorem nat_of {a : Int} (h : (Lit.int .u64 a).wf = true) : ∃ x : Nat, a = x ∧ W64 x := by
  simp only [Lit.wf, Bool.and_eq_true, decide_eq_true_eq] at h
  have h1 : IntKind.u64.min = 0 := by decide
  have h2 : IntKind.u64.max = 18446744073709551615 := by decide
  exact ⟨a.toNat, by omega, by unfold W64; omega⟩

set_option maxHeartbeats 1600000 in
theorem small_yes (b : Nat) (s : ByteArray) (w : World) (hw : W64 b) (hE : Es w) (hn : s.size ≤ 100) (ho : okB (s).data.toList = true) :
    Calls Tryd.prog 3 #[.int .u64 b, .string s] w fun e w' => e = .returned (.bool true) ∧ Below w.heap.size w w' := by
  have c1 : decide ((100 : Int) < (s.size : Int)) = false := by simp; omega
  obtain ⟨s1, hs1⟩ : ∃ s1, s1 = s := ⟨_, rfl⟩
  have HS1 := Lib.hid hs1
  rw [← hs1] at ho
  obtain ⟨x, hx⟩ : ∃ x, val lo s1.data.toList = x := ⟨_, rfl⟩
  have HR : Hid (ans s1.data.toList = (x, 0)) := Lib.hid (by rw [ans_ok ho, hx])
  have HT := Lib.hid (text_of ho hx)
  have HX : Hid (W64 x) := Lib.hid (by have := ans_w s1.data.toList; rw [HR.out] at this; exact this)
  have HB := Lib.hid (text_back hw)
  have HPP := Lib.hid (plain_plain b)
  have HE := Lib.hid hE
  have HW := Lib.hid hw
  clear hs1 ho hE hw hx
  go_enter Tryd.func3, Tryd.ntmps3
  go_wp2_with fail
  rw [← HS1.out]
  go_at_call 4; refine (Read_of HR.out _ HE.out).mono ?_; rintro e w1 ⟨rfl, hb1⟩
  have HB1 := Lib.hid hb1
  have HE1 := Lib.hid (HE.out.on hb1)
  clear hb1
  go_wp2_with fail
  go_at_call 5; refine (refRead_of HR.out _).mono ?_; rintro e w2 ⟨rfl, hb2⟩
  have HB2 := Lib.hid (HB1.out.trans (hb2.mono HB1.out.size))
  have HE2 := Lib.hid (HE1.out.on hb2)
  clear hb2
  go_wp2_with fail
  go_at_call 6; refine (is_of (a := x) (b := x) rfl _).mono ?_; rintro e w' ⟨rfl, rfl⟩
  go_wp2_with fail
  go_at_call 8; refine (Of_nat _ _).mono ?_; rintro e w' ⟨rfl, rfl⟩
  go_wp2_with fail
  go_at_call 7; refine (Text_any _ _ HW.out).mono ?_; rintro e w3 ⟨rfl, hb3⟩
  have HB3 := Lib.hid (HB2.out.trans (hb3.mono HB2.out.size))
  have HE3 := Lib.hid (HE2.out.on hb3)
  clear hb3
  go_wp2_with fail
  go_at_call 9; refine (refText_any _ _ HW.out).mono ?_; rintro e w' ⟨rfl, rfl⟩
  go_wp2_with fail
  go_at_call 8; refine (Of_nat _ _).mono ?_; rintro e w' ⟨rfl, rfl⟩
  go_wp2_with fail
  go_at_call 7; refine (Text_any _ _ HW.out).mono ?_; rintro e w4 ⟨rfl, hb4⟩
  have HB4 := Lib.hid (HB3.out.trans (hb4.mono HB3.out.size))
  have HE4 := Lib.hid (HE3.out.on hb4)
  clear hb4
  go_wp2_with fail
  go_at_call 4; refine (Read_of HB.out _ HE4.out).mono ?_; rintro e w5 ⟨rfl, hb5⟩
  have HB5 := Lib.hid (HB4.out.trans (hb5.mono HB4.out.size))
  clear hb5
  go_wp2_with fail
  go_at_call 6; refine (is_of HPP.out _).mono ?_; rintro e w' ⟨rfl, rfl⟩
  go_wp2_with fail
  go_at_call 7; refine (Text_any _ _ HX.out).mono ?_; rintro e w6 ⟨rfl, hb6⟩
  rw [HT.out]
  have HB6 := Lib.hid (HB5.out.trans (hb6.mono HB5.out.size))
  clear hb6
  go_wp2_with fail
  go_at_call 10; refine (lives_any _).mono ?_; rintro e w' ⟨rfl, rfl⟩
  go_wp2_with fail
  go_ret
  exact ⟨rfl, HB6.out.drew⟩

set_option maxHeartbeats 1600000 in
theorem small_no (b : Nat) (s : ByteArray) (w : World) (hw : W64 b) (hE : Es w) (hn : s.size ≤ 100) (ho : okB (s).data.toList = false) :
    Calls Tryd.prog 3 #[.int .u64 b, .string s] w fun e w' => e = .returned (.bool true) ∧ Below w.heap.size w w' := by
  have c1 : decide ((100 : Int) < (s.size : Int)) = false := by simp; omega
  obtain ⟨s1, hs1⟩ : ∃ s1, s1 = s := ⟨_, rfl⟩
  have HS1 := Lib.hid hs1
  rw [← hs1] at ho
  have HR := Lib.hid (ans_no ho)
  have HB := Lib.hid (text_back hw)
  have HPP := Lib.hid (plain_plain b)
  have HE := Lib.hid hE
  have HW := Lib.hid hw
  clear hs1 ho hE hw
  go_enter Tryd.func3, Tryd.ntmps3
  go_wp2_with fail
  rw [← HS1.out]
  go_at_call 4; refine (Read_of HR.out _ HE.out).mono ?_; rintro e w1 ⟨rfl, hb1⟩
  have HB1 := Lib.hid hb1
  have HE1 := Lib.hid (HE.out.on hb1)
  clear hb1
  go_wp2_with fail
  go_at_call 5; refine (refRead_of HR.out _).mono ?_; rintro e w2 ⟨rfl, hb2⟩
  have HB2 := Lib.hid (HB1.out.trans (hb2.mono HB1.out.size))
  have HE2 := Lib.hid (HE1.out.on hb2)
  clear hb2
  go_wp2_with fail
  go_at_call 6; refine (is_of (a := 0) (b := 0) rfl _).mono ?_; rintro e w' ⟨rfl, rfl⟩
  go_wp2_with fail
  go_at_call 8; refine (Of_nat _ _).mono ?_; rintro e w' ⟨rfl, rfl⟩
  go_wp2_with fail
  go_at_call 7; refine (Text_any _ _ HW.out).mono ?_; rintro e w3 ⟨rfl, hb3⟩
  have HB3 := Lib.hid (HB2.out.trans (hb3.mono HB2.out.size))
  have HE3 := Lib.hid (HE2.out.on hb3)
  clear hb3
  go_wp2_with fail
  go_at_call 9; refine (refText_any _ _ HW.out).mono ?_; rintro e w' ⟨rfl, rfl⟩
  go_wp2_with fail
  go_at_call 8; refine (Of_nat _ _).mono ?_; rintro e w' ⟨rfl, rfl⟩
  go_wp2_with fail
  go_at_call 7; refine (Text_any _ _ HW.out).mono ?_; rintro e w4 ⟨rfl, hb4⟩
  have HB4 := Lib.hid (HB3.out.trans (hb4.mono HB3.out.size))
  have HE4 := Lib.hid (HE3.out.on hb4)
  clear hb4
  go_wp2_with fail
  go_at_call 4; refine (Read_of HB.out _ HE4.out).mono ?_; rintro e w5 ⟨rfl, hb5⟩
  have HB5 := Lib.hid (HB4.out.trans (hb5.mono HB4.out.size))
  clear hb5
  go_wp2_with fail
  go_at_call 6; refine (is_of HPP.out _).mono ?_; rintro e w' ⟨rfl, rfl⟩
  go_wp2_with fail
  go_at_call 10; refine (lives_any _).mono ?_; rintro e w' ⟨rfl, rfl⟩
  go_wp2_with fail
  go_ret
  exact ⟨rfl, HB5.out.drew⟩

set_option maxHeartbeats 1600000 in
theorem big_yes (b : Nat) (s : ByteArray) (w : World) (hw : W64 b) (hE : Es w) (hn : 100 < s.size ∧ s.size ≤ 2 ^ 63 - 1) (ho : okB (s.extract 0 100).data.toList = true) :
    Calls Tryd.prog 3 #[.int .u64 b, .string s] w fun e w' => e = .returned (.bool true) ∧ Below w.heap.size w w' := by
  obtain ⟨hn, hn2⟩ := hn
  have c1 : decide ((100 : Int) < (s.size : Int)) = true := by simp; omega
  obtain ⟨s1, hs1⟩ : ∃ s1, s1 = s.extract 0 100 := ⟨_, rfl⟩
  have HS1 := Lib.hid hs1
  rw [← hs1] at ho
  obtain ⟨x, hx⟩ : ∃ x, val lo s1.data.toList = x := ⟨_, rfl⟩
  have HR : Hid (ans s1.data.toList = (x, 0)) := Lib.hid (by rw [ans_ok ho, hx])
  have HT := Lib.hid (text_of ho hx)
  have HX : Hid (W64 x) := Lib.hid (by have := ans_w s1.data.toList; rw [HR.out] at this; exact this)
  have HB := Lib.hid (text_back hw)
  have HPP := Lib.hid (plain_plain b)
  have HE := Lib.hid hE
  have HW := Lib.hid hw
  clear hs1 ho hE hw hx
  go_enter Tryd.func3, Tryd.ntmps3
  go_wp2_with fail
  rw [← HS1.out]
  go_at_call 4; refine (Read_of HR.out _ HE.out).mono ?_; rintro e w1 ⟨rfl, hb1⟩
  have HB1 := Lib.hid hb1
  have HE1 := Lib.hid (HE.out.on hb1)
  clear hb1
  go_wp2_with fail
  go_at_call 5; refine (refRead_of HR.out _).mono ?_; rintro e w2 ⟨rfl, hb2⟩
  have HB2 := Lib.hid (HB1.out.trans (hb2.mono HB1.out.size))
  have HE2 := Lib.hid (HE1.out.on hb2)
  clear hb2
  go_wp2_with fail
  go_at_call 6; refine (is_of (a := x) (b := x) rfl _).mono ?_; rintro e w' ⟨rfl, rfl⟩
  go_wp2_with fail
  go_at_call 8; refine (Of_nat _ _).mono ?_; rintro e w' ⟨rfl, rfl⟩
  go_wp2_with fail
  go_at_call 7; refine (Text_any _ _ HW.out).mono ?_; rintro e w3 ⟨rfl, hb3⟩
  have HB3 := Lib.hid (HB2.out.trans (hb3.mono HB2.out.size))
  have HE3 := Lib.hid (HE2.out.on hb3)
  clear hb3
  go_wp2_with fail
  go_at_call 9; refine (refText_any _ _ HW.out).mono ?_; rintro e w' ⟨rfl, rfl⟩
  go_wp2_with fail
  go_at_call 8; refine (Of_nat _ _).mono ?_; rintro e w' ⟨rfl, rfl⟩
  go_wp2_with fail
  go_at_call 7; refine (Text_any _ _ HW.out).mono ?_; rintro e w4 ⟨rfl, hb4⟩
  have HB4 := Lib.hid (HB3.out.trans (hb4.mono HB3.out.size))
  have HE4 := Lib.hid (HE3.out.on hb4)
  clear hb4
  go_wp2_with fail
  go_at_call 4; refine (Read_of HB.out _ HE4.out).mono ?_; rintro e w5 ⟨rfl, hb5⟩
  have HB5 := Lib.hid (HB4.out.trans (hb5.mono HB4.out.size))
  clear hb5
  go_wp2_with fail
  go_at_call 6; refine (is_of HPP.out _).mono ?_; rintro e w' ⟨rfl, rfl⟩
  go_wp2_with fail
  go_at_call 7; refine (Text_any _ _ HX.out).mono ?_; rintro e w6 ⟨rfl, hb6⟩
  rw [HT.out]
  have HB6 := Lib.hid (HB5.out.trans (hb6.mono HB5.out.size))
  clear hb6
  go_wp2_with fail
  go_at_call 10; refine (lives_any _).mono ?_; rintro e w' ⟨rfl, rfl⟩
  go_wp2_with fail
  go_ret
  exact ⟨rfl, HB6.out.drew⟩

set_option maxHeartbeats 1600000 in
theorem big_no (b : Nat) (s : ByteArray) (w : World) (hw : W64 b) (hE : Es w) (hn : 100 < s.size ∧ s.size ≤ 2 ^ 63 - 1) (ho : okB (s.extract 0 100).data.toList = false) :
    Calls Tryd.prog 3 #[.int .u64 b, .string s] w fun e w' => e = .returned (.bool true) ∧ Below w.heap.size w w' := by
  obtain ⟨hn, hn2⟩ := hn
  have c1 : decide ((100 : Int) < (s.size : Int)) = true := by simp; omega
  obtain ⟨s1, hs1⟩ : ∃ s1, s1 = s.extract 0 100 := ⟨_, rfl⟩
  have HS1 := Lib.hid hs1
  rw [← hs1] at ho
  have HR := Lib.hid (ans_no ho)
  have HB := Lib.hid (text_back hw)
  have HPP := Lib.hid (plain_plain b)
  have HE := Lib.hid hE
  have HW := Lib.hid hw
  clear hs1 ho hE hw
  go_enter Tryd.func3, Tryd.ntmps3
  go_wp2_with fail
  rw [← HS1.out]
  go_at_call 4; refine (Read_of HR.out _ HE.out).mono ?_; rintro e w1 ⟨rfl, hb1⟩
  have HB1 := Lib.hid hb1
  have HE1 := Lib.hid (HE.out.on hb1)
  clear hb1
  go_wp2_with fail
  go_at_call 5; refine (refRead_of HR.out _).mono ?_; rintro e w2 ⟨rfl, hb2⟩
  have HB2 := Lib.hid (HB1.out.trans (hb2.mono HB1.out.size))
  have HE2 := Lib.hid (HE1.out.on hb2)
  clear hb2
  go_wp2_with fail
  go_at_call 6; refine (is_of (a := 0) (b := 0) rfl _).mono ?_; rintro e w' ⟨rfl, rfl⟩
  go_wp2_with fail
  go_at_call 8; refine (Of_nat _ _).mono ?_; rintro e w' ⟨rfl, rfl⟩
  go_wp2_with fail
  go_at_call 7; refine (Text_any _ _ HW.out).mono ?_; rintro e w3 ⟨rfl, hb3⟩
  have HB3 := Lib.hid (HB2.out.trans (hb3.mono HB2.out.size))
  have HE3 := Lib.hid (HE2.out.on hb3)
  clear hb3
  go_wp2_with fail
  go_at_call 9; refine (refText_any _ _ HW.out).mono ?_; rintro e w' ⟨rfl, rfl⟩
  go_wp2_with fail
  go_at_call 8; refine (Of_nat _ _).mono ?_; rintro e w' ⟨rfl, rfl⟩
  go_wp2_with fail
  go_at_call 7; refine (Text_any _ _ HW.out).mono ?_; rintro e w4 ⟨rfl, hb4⟩
  have HB4 := Lib.hid (HB3.out.trans (hb4.mono HB3.out.size))
  have HE4 := Lib.hid (HE3.out.on hb4)
  clear hb4
  go_wp2_with fail
  go_at_call 4; refine (Read_of HB.out _ HE4.out).mono ?_; rintro e w5 ⟨rfl, hb5⟩
  have HB5 := Lib.hid (HB4.out.trans (hb5.mono HB4.out.size))
  clear hb5
  go_wp2_with fail
  go_at_call 6; refine (is_of HPP.out _).mono ?_; rintro e w' ⟨rfl, rfl⟩
  go_wp2_with fail
  go_at_call 10; refine (lives_any _).mono ?_; rintro e w' ⟨rfl, rfl⟩
  go_wp2_with fail
  go_ret
  exact ⟨rfl, HB5.out.drew⟩

theorem texts_walk (b : Nat) (s : ByteArray) (w : World) (hw : W64 b) (hE : Es w) (hs : s.size ≤ maxLen) :
    Calls Tryd.prog 3 #[.int .u64 b, .string s] w fun e w' => e = .returned (.bool true) ∧ Below w.heap.size w w' := by
  unfold maxLen at hs
  by_cases h : 100 < s.size
  · cases ho : okB (s.extract 0 100).data.toList
    · exact big_no b s w hw hE ⟨h, hs⟩ ho
    · exact big_yes b s w hw hE ⟨h, hs⟩ ho
  · cases ho : okB s.data.toList
    · exact small_no b s w hw hE (by omega) ho
    · exact small_yes b s w hw hE (by omega) ho
theorem texts_int (b : Int) (s : ByteArray) (w : World) (hb : (Lit.int .u64 b).wf = true) (hE : Es w) (hs : s.size ≤ maxLen) :
    Calls Tryd.prog 3 #[.int .u64 b, .string s] w fun e w' => e = .returned (.bool true) ∧ Below w.heap.size w w' := by
  obtain ⟨x, rfl, hx⟩ := nat_of hb
  exact texts_walk x s w hx hE hs
end Go.Proofs.YtchokhfcemeagaaDoor.score
