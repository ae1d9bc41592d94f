/- The walk of the document's Read. -/
import Derived.Test.YtchokhfcemeagaaDoorQ1
import Derived.Deep.QuietTactic
import Derived.BigQuiet
namespace Go.Proofs.YtchokhfcemeagaaDoor.score
open Go.RowKit Go.PlainAid
open Go.Proofs.YtchokhfcemeagaaDoor.fns

theorem below_drewN' {B : Nat} {w w' : World} (h : Below B w w') (n : Nat) : Below B w (w'.drewN n) :=
  ⟨h.os, h.tape, h.output, h.size, h.block⟩
theorem two_ret {r : Nat × Int} {b : Nat} {c : Int} (h : r = (b, c)) : Ending.returned (.tuple #[.int .u64 (b : Int), .int .i64 c]) = .returned (.tuple #[.int .u64 (r.1 : Int), .int .i64 r.2]) := by rw [h]
/-- what the document's Read hands back -/
def GotBits (w : World) (r : Nat × Int) (e : Ending) (w' : World) : Prop := e = .returned (.tuple #[.int .u64 (r.1 : Int), .int .i64 r.2]) ∧ Below w.heap.size w w'

set_option maxHeartbeats 1600000 in
theorem refRead_any (s : ByteArray) (w : World) :
    Calls Tryd.prog 5 #[.string s] w (GotBits w (ans s.data.toList)) := by
  by_cases hl : s.size = 16
  · have hgb := get_bt s
    have hgh := get_bt ⟨#[48, 49, 50, 51, 52, 53, 54, 55, 56, 57, 97, 98, 99, 100, 101, 102]⟩
    have HL := Lib.hid hl
    have c0 : ((s.size : Int) != 16) = false := by simp [hl]
    clear hl
    go_enter Tryd.func5, Tryd.ntmps5
    go_wp2
    go_loopw [4, 5] (fun v i wr => ∃ k d x : Nat, k ≤ 16 ∧ i = .int .i64 k ∧ v = .int .u64 x ∧ Hid (x = val lo (s.data.toList.take k)) ∧ Hid (allB lo (s.data.toList.take k) = true) ∧ Hid (wr = w.drewN d)) (fun _ i _ => 16 - (intOf i).toNat)
    case atStart => exact ⟨0, 0, 0, by omega, rfl, rfl, Lib.hid (by simp [val]), Lib.hid (by simp [allB]), Lib.hid (by simp [World.drewN_zero])⟩
    case round =>
      obtain ⟨k, d, x, hk, rfl, rfl, HX, HA, HD⟩ := hrel
      obtain ⟨wo, rfl⟩ : ∃ wo : World, wo = wr := ⟨_, rfl⟩
      by_cases h1 : k < 16
      · have hks : k < s.size := by rw [HL.out]; exact h1
        have hb : x < 1152921504606846976 := by rw [HX.out]; exact val_bd (by omega) HA.out
        have hki : (k : Int) < 16 := by omega
        go_wp2
        go_loopw [6, 7] (fun v6 j w2 => ∃ m d2 y : Nat, m ≤ 16 ∧ j = .int .i64 m ∧ v6 = .int .i64 y ∧ Hid (y = among (byn s k) m) ∧ Hid (w2 = wo.drewN d2)) (fun _ j _ => 16 - (intOf j).toNat)
        case atStart => exact ⟨0, 0, 16, by omega, rfl, rfl, Lib.hid (among_zero _).symm, Lib.hid (by simp [World.drewN_zero])⟩
        case round =>
          obtain ⟨m, d2, y, hm3, rfl, rfl, HY, HW⟩ := hrel
          by_cases h2 : m < 16
          · have hmi : (m : Int) < 16 := by omega
            have hmh : m < (⟨#[48, 49, 50, 51, 52, 53, 54, 55, 56, 57, 97, 98, 99, 100, 101, 102]⟩ : ByteArray).size := h2
            have hx := bt_hex h2
            unfold hexS at hx
            by_cases e : lo (byn s k) = m
            · have c1 : (bt s k == bt ⟨#[48, 49, 50, 51, 52, 53, 54, 55, 56, 57, 97, 98, 99, 100, 101, 102]⟩ m) = true := by
                rw [hx, byn_bt, (lo_is h2).2 e]; simp
              have HV := Lib.hid (among_hit e)
              clear e hx
              go_wp2
              go_quiet (fail)
              go_wp2
              refine ⟨⟨m + 1, d2 + nq, m, by omega, by go_num, rfl, Lib.hid HV.out.symm, Lib.hid (by rw [HW.out]; simp [World.drewN, Nat.add_assoc])⟩, by simp [intOf]; omega⟩
            · have c1 : (bt s k == bt ⟨#[48, 49, 50, 51, 52, 53, 54, 55, 56, 57, 97, 98, 99, 100, 101, 102]⟩ m) = false := by
                rw [hx, byn_bt]; simp only [beq_eq_false_iff_ne, ne_eq]
                intro h3
                exact e ((lo_is h2).1 (by omega))
              have HV := Lib.hid (among_miss e)
              clear e hx
              go_wp2
              go_quiet (fail)
              go_wp2
              refine ⟨⟨m + 1, d2 + nq, y, by omega, by go_num, rfl, Lib.hid (by rw [HV.out]; exact HY.out), Lib.hid (by rw [HW.out]; simp [World.drewN, Nat.add_assoc])⟩, by simp [intOf]; omega⟩
          · obtain rfl : 16 = m := by omega
            have HY2 : Hid (y = lo (byn s k)) := Lib.hid (by rw [HY.out, among_all])
            by_cases h3 : y < 16
            · have c2 : decide ((15 : Int) < (y : Int)) = false := by simp; omega
              have HX2 := Lib.hid (val_take lo hks)
              have HA2 := Lib.hid (all_take lo hks)
              go_wp2
              refine ⟨⟨k + 1, d + d2, 16 * x + y, by omega, by go_num, by go_num, Lib.hid (by rw [HX2.out, ← HX.out, HY2.out]), Lib.hid (by rw [HA2.out, HA.out, ← HY2.out]; simp [h3]), Lib.hid (by rw [HW.out, HD.out]; simp [World.drewN, Nat.add_assoc])⟩, by simp [intOf]; omega⟩
            · have c2 : decide ((15 : Int) < (y : Int)) = true := by simp; omega
              have HR := Lib.hid (ans_no (no_all (all_not lo hks (by rw [← HY2.out]; exact h3))))
              go_wp2
              go_ret2
              exact ⟨two_ret HR.out, by rw [HW.out, HD.out]; exact below_drewN' (below_drewN' (Below.refl _ _) _) _⟩
      · obtain rfl : 16 = k := by omega
        have htk : s.data.toList.take 16 = s.data.toList := List.take_of_length_le (by rw [list_len, HL.out]; exact Nat.le_refl _)
        have HX2 : Hid (x = val lo s.data.toList) := Lib.hid (by rw [HX.out, htk])
        have HA2 : Hid (allB lo s.data.toList = true) := Lib.hid (by rw [← htk]; exact HA.out)
        have hbelow : Below w.heap.size w wo := by rw [HD.out]; exact below_drewN' (Below.refl _ _) _
        have HB := Lib.hid hbelow
        clear htk hbelow
        by_cases h4 : plain x = x
        · have c3 : ((plain x : Int) != (x : Int)) = false := by simp [h4]
          have HR := Lib.hid (ans_ok (ok_mk (by rw [list_len]; exact HL.out) HA2.out (by rw [← HX2.out]; exact h4)))
          clear h4
          go_wp2_with fail
          go_at_call 13; refine (refPlain_any _ _).mono ?_; rintro e w' ⟨rfl, rfl⟩
          go_wp2_with fail
          go_ret2
          exact ⟨two_ret (by rw [HR.out, HX2.out]), HB.out⟩
        · have c3 : ((plain x : Int) != (x : Int)) = true := by simp; omega
          have HR := Lib.hid (ans_no (no_plain (l := s.data.toList) (by rw [← HX2.out]; exact h4)))
          clear h4
          go_wp2_with fail
          go_at_call 13; refine (refPlain_any _ _).mono ?_; rintro e w' ⟨rfl, rfl⟩
          go_wp2_with fail
          go_ret2
          exact ⟨two_ret HR.out, HB.out⟩
  · have c0 : ((s.size : Int) != 16) = true := by simp; omega
    have HR := Lib.hid (ans_no (no_len (l := s.data.toList) (by rw [list_len]; exact hl)))
    clear hl
    go_enter Tryd.func5, Tryd.ntmps5
    go_wp2_with fail
    go_ret2
    exact ⟨two_ret HR.out, Below.refl _ _⟩
end Go.Proofs.YtchokhfcemeagaaDoor.score
