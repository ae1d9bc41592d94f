/- The walk of the statement on signs. -/
import Derived.Test.YtmbmpghfidcnhaaDoorX3
namespace Go.Proofs.YtmbmpghfidcnhaaDoor.tri
open Go.RowKit Go.PlainAid
open Go.Proofs.YtmbmpghfidcnhaaDoor.fns Go.Proofs.YtmbmpghfidcnhaaDoor.ints

theorem Read_at {s : ByteArray} {r : List Int × Int} (h : valsR s = r) (w : World) (hT : Sgn w) (hm : s.size ≤ 2000) : Calls Tryd.prog 5 #[.string s] w (GotVals w r) := h ▸ Read_any s w hT hm
theorem refRead_at {s : ByteArray} {r : List Int × Int} (h : valsR s = r) (w : World) (hm : s.size ≤ 2000) : Calls Tryd.prog 6 #[.string s] w (GotVals w r) := h ▸ refRead_any s w hm
theorem Text_is {ls : List Int} {t : ByteArray} (h : signs ls = t) (v : Value) (w : World) (hv : Ints w v ls) (hT : Sgn w) (hm : ls.length ≤ 2000) :
    Calls Tryd.prog 8 #[v] w fun e w' => e = .returned (.string t) ∧ Below w.heap.size w w' := by
  have := Text_any ls v w hv hT hm; rw [h] at this; exact this

theorem texts_skip (a : Option Addr) (n cap : Nat) (s : ByteArray) (w : World) (h : 500 < n ∨ 500 < s.size) (hs : s.size ≤ maxLen) :
    Calls Tryd.prog 3 #[.slice a n cap, .string s] w fun e w' => e = .returned (.bool true) ∧ Below w.heap.size w w' := by
  unfold maxLen at hs
  by_cases hn : 500 < n
  · have c1 : decide ((500 : Int) < (n : Int)) = true := by simp; omega
    clear h
    go_enter Tryd.func3, Tryd.ntmps3
    go_wp2_with fail
    go_at_call 4; refine (lives_any _).mono ?_; rintro e w' ⟨rfl, rfl⟩
    go_wp2_with fail
    go_ret
    exact ⟨rfl, Below.refl _ _⟩
  · have c1 : decide ((500 : Int) < (n : Int)) = false := by simp; omega
    have c2 : decide ((500 : Int) < (s.size : Int)) = true := by simp; omega
    clear h hn
    go_enter Tryd.func3, Tryd.ntmps3
    go_wp2_with fail
    go_at_call 4; refine (lives_any _).mono ?_; rintro e w' ⟨rfl, rfl⟩
    go_wp2_with fail
    go_ret
    exact ⟨rfl, Below.refl _ _⟩

set_option maxHeartbeats 1600000 in
theorem texts_main (a : Option Addr) (n cap : Nat) (ls : List Int) (s : ByteArray) (w : World) (hv : Ints w (.slice a n cap) ls) (hnil : a = none → n = 0 ∧ cap = 0) (hn : n ≤ 500) (hs : s.size ≤ 500) (hT : Sgn w) :
    Calls Tryd.prog 3 #[.slice a n cap, .string s] w fun e w' => e = .returned (.bool true) ∧ Below w.heap.size w w' := by
  obtain ⟨hlen, hcap, hmax⟩ := ints_len_of hv
  unfold maxLen at hmax
  have c1 : decide ((500 : Int) < (n : Int)) = false := by simp; omega
  have c2 : decide ((500 : Int) < (s.size : Int)) = false := by simp; omega
  have HV := Lib.hid hv
  have HNIL := Lib.hid hnil
  have HLEN := Lib.hid hlen
  have HT := Lib.hid hT
  have hl2 : ls.length ≤ 500 := by omega
  have HL2 := Lib.hid hl2
  clear hv hnil hlen hT hl2
  rcases valsR_cases s with ⟨hg, hr⟩ | hr
  · have HX := Lib.hid (signs_vals hg)
    obtain ⟨vs, hvs⟩ : ∃ vs, vs = valsTo s s.size := ⟨_, rfl⟩
    have HVL : Hid (vs.length ≤ 500) := Lib.hid (by rw [hvs, valsTo_len]; omega)
    rw [← hvs] at HX hr
    clear hvs hg
    have HR := Lib.hid hr
    clear hr
    go_enter Tryd.func3, Tryd.ntmps3
    go_wp2_with fail
    go_at_call 5; refine (Read_at HR.out _ HT.out (by omega)).mono ?_; rintro e w1 ⟨v1, rfl, i1, b1⟩
    have I1 := Lib.hid i1
    have B1 := Lib.hid b1
    clear i1 b1
    go_wp2_with fail
    go_at_call 6; refine (refRead_at HR.out _ (by omega)).mono ?_; rintro e w2 ⟨v2, rfl, i2, b2⟩
    have I2 := Lib.hid i2
    have J2 := Lib.hid (I1.out.on b2)
    have B2 := Lib.hid (B1.out.trans (b2.mono B1.out.size))
    clear i2 b2
    go_wp2_with fail
    go_at_call 7; refine (refInts_same rfl J2.out I2.out).mono ?_; rintro e w3 ⟨rfl, b3⟩
    have J3 := Lib.hid (J2.out.on b3)
    have B3 := Lib.hid (B2.out.trans (b3.mono B2.out.size))
    have V3 := Lib.hid (HV.out.on B3.out)
    clear b3
    go_wp2_with (at_builtin; refine wpList_clone w3 rfl (.tmp 37) (.tmp 38) rfl rfl a n cap ls rfl V3.out HNIL.out (by omega) ?_)
    intro v4 w4 i4 b4
    have I4 := Lib.hid i4
    have B4 := Lib.hid (B3.out.trans (b4.mono B3.out.size))
    have J4 := Lib.hid (J3.out.on b4)
    clear i4 b4
    go_wp2_with fail
    go_at_call 8; refine (Text_any ls _ _ I4.out (HT.out.on B4.out) (by have := HL2.out; omega)).mono ?_; rintro e w5 ⟨rfl, b5⟩
    have B5 := Lib.hid (B4.out.trans (b5.mono B4.out.size))
    have J5 := Lib.hid (J4.out.on b5)
    have V5 := Lib.hid (HV.out.on B5.out)
    clear b5
    go_wp2_with fail
    go_at_call 9; refine (refText_any ls _ _ V5.out (by have := HL2.out; omega)).mono ?_; rintro e w6 ⟨rfl, b6⟩
    have B6 := Lib.hid (B5.out.trans (b6.mono B5.out.size))
    have J6 := Lib.hid (J5.out.on b6)
    clear b6
    go_wp2_with fail
    go_at_call 8; refine (Text_is HX.out _ _ J6.out (HT.out.on B6.out) (by have := HVL.out; omega)).mono ?_; rintro e w7 ⟨rfl, b7⟩
    have B7 := Lib.hid (B6.out.trans (b7.mono B6.out.size))
    clear b7
    go_wp2_with fail
    go_at_call 4; refine (lives_any _).mono ?_; rintro e w' ⟨rfl, rfl⟩
    go_wp2_with fail
    go_ret
    exact ⟨rfl, B7.out⟩
  · obtain ⟨vs, hvs⟩ : ∃ vs : List Int, vs = [] := ⟨_, rfl⟩
    rw [← hvs] at hr
    clear hvs
    have HR := Lib.hid hr
    clear hr
    go_enter Tryd.func3, Tryd.ntmps3
    go_wp2_with fail
    go_at_call 5; refine (Read_at HR.out _ HT.out (by omega)).mono ?_; rintro e w1 ⟨v1, rfl, i1, b1⟩
    have I1 := Lib.hid i1
    have B1 := Lib.hid b1
    clear i1 b1
    go_wp2_with fail
    go_at_call 6; refine (refRead_at HR.out _ (by omega)).mono ?_; rintro e w2 ⟨v2, rfl, i2, b2⟩
    have I2 := Lib.hid i2
    have J2 := Lib.hid (I1.out.on b2)
    have B2 := Lib.hid (B1.out.trans (b2.mono B1.out.size))
    clear i2 b2
    go_wp2_with fail
    go_at_call 7; refine (refInts_same rfl J2.out I2.out).mono ?_; rintro e w3 ⟨rfl, b3⟩
    have J3 := Lib.hid (J2.out.on b3)
    have B3 := Lib.hid (B2.out.trans (b3.mono B2.out.size))
    have V3 := Lib.hid (HV.out.on B3.out)
    clear b3
    go_wp2_with (at_builtin; refine wpList_clone w3 rfl (.tmp 37) (.tmp 38) rfl rfl a n cap ls rfl V3.out HNIL.out (by omega) ?_)
    intro v4 w4 i4 b4
    have I4 := Lib.hid i4
    have B4 := Lib.hid (B3.out.trans (b4.mono B3.out.size))
    have J4 := Lib.hid (J3.out.on b4)
    clear i4 b4
    go_wp2_with fail
    go_at_call 8; refine (Text_any ls _ _ I4.out (HT.out.on B4.out) (by have := HL2.out; omega)).mono ?_; rintro e w5 ⟨rfl, b5⟩
    have B5 := Lib.hid (B4.out.trans (b5.mono B4.out.size))
    have J5 := Lib.hid (J4.out.on b5)
    have V5 := Lib.hid (HV.out.on B5.out)
    clear b5
    go_wp2_with fail
    go_at_call 9; refine (refText_any ls _ _ V5.out (by have := HL2.out; omega)).mono ?_; rintro e w6 ⟨rfl, b6⟩
    have B6 := Lib.hid (B5.out.trans (b6.mono B5.out.size))
    have J6 := Lib.hid (J5.out.on b6)
    clear b6
    go_wp2_with fail
    go_at_call 4; refine (lives_any _).mono ?_; rintro e w' ⟨rfl, rfl⟩
    go_wp2_with fail
    go_ret
    exact ⟨rfl, B6.out⟩
theorem texts_walk (a : Option Addr) (n cap : Nat) (ls : List Int) (s : ByteArray) (w : World) (hv : Ints w (.slice a n cap) ls) (hnil : a = none → n = 0 ∧ cap = 0) (hs : s.size ≤ maxLen) (hT : Sgn w) :
    Calls Tryd.prog 3 #[.slice a n cap, .string s] w fun e w' => e = .returned (.bool true) ∧ Below w.heap.size w w' := by
  by_cases h : 500 < n ∨ 500 < s.size
  · exact texts_skip a n cap s w h hs
  · exact texts_main a n cap ls s w hv hnil (by omega) (by omega) hT
end Go.Proofs.YtmbmpghfidcnhaaDoor.tri
