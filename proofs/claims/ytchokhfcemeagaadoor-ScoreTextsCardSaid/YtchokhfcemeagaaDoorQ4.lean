/- The walks of the library's ParseUint, and of Read. -/
import Derived.Test.YtchokhfcemeagaaDoorQ3
namespace Go.Proofs.YtchokhfcemeagaaDoor.score
open Go.RowKit Go.PlainAid
open Go.Proofs.YtchokhfcemeagaaDoor.fns

/-- the library's variable holds an error, or none -/
def Es (w : World) : Prop := ∃ ev, w.cell? ⟨1, 0, none⟩ = some ev ∧ (ev = .nilIface ∨ ∃ te pe, ev = .iface te pe) ∧ 1 < w.heap.size
theorem Es.on {w w' : World} (h : Es w) (hb : Below w.heap.size w w') : Es w' := by
  obtain ⟨ev, h1, h2, h3⟩ := h
  exact ⟨ev, (hb.cell (p := ⟨1, 0, none⟩) h3).trans h1, h2, Nat.lt_of_lt_of_le h3 hb.size⟩
theorem inner_ok {s : ByteArray} (w : World) (hl : s.size = 16) (h : allB up s.data.toList = true) :
    Calls Tryd.prog 22 #[.string s, .int .i64 16, .int .i64 64] w fun e w' => e = .returned (.tuple #[.int .u64 (val up s.data.toList : Nat), .nilIface]) ∧ Below w.heap.size w w' := by
  have := inner_any s w hl; rw [pres_ok h] at this; exact this
theorem inner_no {s : ByteArray} (w : World) (hl : s.size = 16) (h : allB up s.data.toList = false) :
    Calls Tryd.prog 22 #[.string s, .int .i64 16, .int .i64 64] w fun e w' => e = .returned (.tuple #[.int .u64 0, .iface 49 (.int .i64 2)]) ∧ Below w.heap.size w w' := by
  have := inner_any s w hl; rw [pres_no h] at this; exact this
theorem Parse_ok {s : ByteArray} (w : World) (hl : s.size = 16) (h : allB up s.data.toList = true) :
    Calls Tryd.prog 11 #[.string s, .int .i64 16, .int .i64 64] w fun e w' => e = .returned (.tuple #[.int .u64 (val up s.data.toList : Nat), .nilIface]) ∧ Below w.heap.size w w' := by
  have HL := Lib.hid hl
  have HA := Lib.hid h
  clear hl h
  go_enter Tryd.func11, Tryd.ntmps11
  go_wp2_with fail
  go_at_call 22; refine (inner_ok _ HL.out HA.out).mono ?_; rintro e w1 ⟨rfl, hb1⟩
  have HB := Lib.hid hb1
  clear hb1
  go_wp2_with fail
  go_ret2
  exact ⟨rfl, HB.out⟩
def Failed (w : World) (e : Ending) (w' : World) : Prop := ∃ p : Option Addr, e = .returned (.tuple #[.int .u64 0, .iface 53 (.pointer p)]) ∧ Below w.heap.size w w'
theorem Parse_no {s : ByteArray} (w : World) (hl : s.size = 16) (h : allB up s.data.toList = false) (hE : Es w) :
    Calls Tryd.prog 11 #[.string s, .int .i64 16, .int .i64 64] w (Failed w) := by
  have HL := Lib.hid hl
  have HA := Lib.hid h
  have HE := Lib.hid hE
  clear hl h hE
  go_enter Tryd.func11, Tryd.ntmps11
  go_wp2_with fail
  go_at_call 22; refine (inner_no _ HL.out HA.out).mono ?_; rintro e w1 ⟨rfl, hb1⟩
  have HB := Lib.hid hb1
  have HE1 := Lib.hid (HE.out.on hb1)
  clear hb1
  go_wp2_with fail
  go_at_call 23
  obtain ⟨ev, hv, hev, -⟩ := HE1.out
  refine (Tryd.strconv_toError_syntax _ s 16 64 ev _ (by have := HL.out; omega) hv hev).mono ?_
  rintro e w2 ⟨N, rfl, -, -, hb2⟩
  have HB2 := Lib.hid (HB.out.trans (hb2.mono HB.out.size))
  clear hb2 hv hev
  go_wp2_with fail
  go_ret2
  exact ⟨some ⟨N, 0, none⟩, rfl, HB2.out⟩

/-- what Read hands back -/
def GotScore (w : World) (r : Nat × Int) (e : Ending) (w' : World) : Prop := e = .returned (.tuple #[.float .f64 r.1, .int .i64 r.2]) ∧ Below w.heap.size w w'
theorem score_ret {r : Nat × Int} {b : Nat} {c : Int} (h : r = (b, c)) : Ending.returned (.tuple #[.float .f64 b, .int .i64 c]) = .returned (.tuple #[.float .f64 r.1, .int .i64 r.2]) := by rw [h]
theorem from_nat (n : Nat) (w : World) : (callFunc 12 #[.int .u64 (n : Int)]).run Tryd.prog w = .ok (.value (.float .f64 n)) w := by
  have := from_run (n : Int) w; rw [Int.toNat_natCast] at this; exact this

theorem str_ne {a b : ByteArray} (h : a ≠ b) : (a.toList == b.toList) = false := by
  rw [ByteArray.toList_eq, ByteArray.toList_eq]
  simp only [beq_eq_false_iff_ne, ne_eq]
  intro e
  exact h (ByteArray.ext (Array.toList_inj.1 e))
theorem Read_any (s : ByteArray) (w : World) (hE : Es w) :
    Calls Tryd.prog 4 #[.string s] w (GotScore w (ans s.data.toList)) := by
  have HE := Lib.hid hE
  clear hE
  by_cases hl : s.size = 16
  · have c0 : ((s.size : Int) != 16) = false := by simp [hl]
    have hll : s.data.toList.length = 16 := by rw [list_len]; exact hl
    have HL := Lib.hid hl
    have HLL := Lib.hid hll
    clear hl hll
    cases hA : allB up s.data.toList
    · have HA := Lib.hid hA
      have HR := Lib.hid (ans_no (l := s.data.toList) (by
        cases h : okB s.data.toList
        · rfl
        · rw [(ok_up h).1] at hA; cases hA))
      clear hA
      go_enter Tryd.func4, Tryd.ntmps4
      go_wp2_with fail
      go_at_call 11; refine (Parse_no _ HL.out HA.out HE.out).mono ?_; rintro e w1 ⟨p, rfl, hb1⟩
      have HB := Lib.hid hb1
      clear hb1
      go_wp2_with fail
      go_ret2
      exact ⟨score_ret HR.out, HB.out⟩
    · have HA := Lib.hid hA
      have HS := Lib.hid (text_same HLL.out hA)
      have hvw : W64 (val up s.data.toList) := by have := val_lt hA; rw [HLL.out] at this; exact this
      obtain ⟨x, hx⟩ : ∃ x, x = val up s.data.toList := ⟨_, rfl⟩
      rw [← hx] at HS hvw
      have HX := Lib.hid hx
      have HW := Lib.hid hvw
      have hf := from_nat x
      clear hA hx hvw
      cases ho : okB s.data.toList
      · have hne : text x ≠ s := by
          intro e
          have := HS.out.1 (by rw [← str_list.1 e])
          rw [ho] at this; cases this
        have HR := Lib.hid (ans_no ho)
        have hne2 := str_ne hne
        clear ho hne
        go_enter Tryd.func4, Tryd.ntmps4
        go_wp2_with fail
        go_at_call 11; refine (Parse_ok _ HL.out HA.out).mono ?_; rintro e w1 ⟨rfl, hb1⟩
        rw [← HX.out]
        have HB := Lib.hid hb1
        clear hb1
        go_wp2_with fail
        go_at_call 7; refine (Text_any _ _ HW.out).mono ?_; rintro e w2 ⟨rfl, hb2⟩
        have HB2 := Lib.hid (HB.out.trans (hb2.mono HB.out.size))
        clear hb2
        go_wp2_with fail
        go_ret2
        exact ⟨score_ret HR.out, HB2.out⟩
      · have heq : text x = s := str_list.2 (HS.out.2 ho)
        have HR := Lib.hid (show ans s.data.toList = (x, 0) by rw [ans_ok ho, HX.out, (ok_up ho).2])
        have HT := Lib.hid heq
        clear ho heq
        go_enter Tryd.func4, Tryd.ntmps4
        go_wp2_with fail
        go_at_call 11; refine (Parse_ok _ HL.out HA.out).mono ?_; rintro e w1 ⟨rfl, hb1⟩
        rw [← HX.out]
        have HB := Lib.hid hb1
        clear hb1
        go_wp2_with fail
        go_at_call 7; refine (Text_any _ _ HW.out).mono ?_; rintro e w2 ⟨rfl, hb2⟩
        rw [HT.out]
        have HB2 := Lib.hid (HB.out.trans (hb2.mono HB.out.size))
        clear hb2
        go_wp2_with fail
        go_ret2
        exact ⟨score_ret HR.out, HB2.out⟩
  · have c0 : ((s.size : Int) != 16) = true := by simp; omega
    have HR := Lib.hid (ans_no (no_len (l := s.data.toList) (by rw [list_len]; exact hl)))
    clear hl
    go_enter Tryd.func4, Tryd.ntmps4
    go_wp2_with fail
    go_ret2
    exact ⟨score_ret HR.out, Below.refl _ _⟩
end Go.Proofs.YtchokhfcemeagaaDoor.score
