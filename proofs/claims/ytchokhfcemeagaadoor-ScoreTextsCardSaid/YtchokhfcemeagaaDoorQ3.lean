/- The walk of the library's ParseUint, at sixteen signs and base sixteen. -/
import Derived.Test.YtchokhfcemeagaaDoorQ2
import Derived.Test.YtchokhfcemeagaaDoorShelf
import Derived.Lib.Strings
import Derived.Lib.Walk
import Derived.Lib.ConvBytes
import Derived.Lib.AtoiAllMem
import Derived.Laws.Strings3
import Derived.BigCall
import Derived.BigGuard
import Derived.Lib.SmallJoins
namespace Go.Proofs.YtchokhfcemeagaaDoor.score
open Go.RowKit Go.PlainAid
open Go.Proofs.YtchokhfcemeagaaDoor.fns

theorem lower_of {c q : Nat} (hc : c < 256) (h : low c = q) (w : World) : Calls Tryd.prog 26 #[.int .u8 c] w fun e w' => e = .returned (.int .u8 (q : Int)) ∧ w = w' := by
  have := Tryd.internal_strconv_lower (c : Int) w
  rw [or_low hc, h] at this
  exact this.mono fun _ _ ⟨h1, h2⟩ => ⟨h1, h2.symm⟩

/-- what the inner ParseUint hands back -/
def pres (l : List UInt8) : Value := if allB up l then .tuple #[.int .u64 (val up l : Int), .nilIface] else .tuple #[.int .u64 0, .iface 49 (.int .i64 2)]
theorem pres_ok {l : List UInt8} (h : allB up l = true) : pres l = .tuple #[.int .u64 (val up l : Int), .nilIface] := by unfold pres; rw [if_pos h]
theorem pres_no {l : List UInt8} (h : allB up l = false) : pres l = .tuple #[.int .u64 0, .iface 49 (.int .i64 2)] := by unfold pres; rw [if_neg (by simp [h])]

set_option maxHeartbeats 32000000 in
set_option maxRecDepth 100000 in
theorem inner_any (s : ByteArray) (w : World) (hl : s.size = 16) :
    Calls Tryd.prog 22 #[.string s, .int .i64 16, .int .i64 64] w fun e w' => e = .returned (pres s.data.toList) ∧ Below w.heap.size w w' := by
  have hemp : s.toList.isEmpty = false := by
    rw [← decide_eq_emptyBytes]
    exact decide_eq_false (fun h => by rw [h] at hl; exact absurd hl (by decide))
  have hcv := Lib.run_convert_string_bytes (P := Tryd.prog) w 9 42 5 s (u := .string) Tryd.underlying9 Tryd.underlying42 Tryd.underlying5
  have hB : ∀ j, j < s.size → (Lib.bytesWorld w 5 s).cell? ⟨w.heap.size, j, none⟩ = some (.int .u8 (s.data.toList.getD j 0).toNat) := fun j hj => Lib.bytesWorld_cell w 5 s j hj
  obtain ⟨W1, hW1⟩ : ∃ W1, W1 = Lib.bytesWorld w 5 s := ⟨_, rfl⟩
  have HBW : Hid (Below w.heap.size w W1) := Lib.hid (by rw [hW1]; exact Joins.below_bytesWorld _ _ _ _ (Nat.le_refl _))
  rw [← hW1] at hcv hB
  clear hW1
  have hmv : IntKind.u64.wrap (IntKind.u64.wrap 18446744073709551616 - 1) = 18446744073709551615 := by
    rw [IntKind.wrap_u64, IntKind.wrap_u64]
    decide
  have HL := Lib.hid hl
  have HB := Lib.hid hB
  have hsz : s.size ≤ 16 := by omega
  have hsz2 : 16 ≤ s.size := by omega
  clear hB hl
  go_enter Tryd.func22, Tryd.ntmps22
  go_wp2
  go_loop [12, 13, 101] (fun vu vn vi => ∃ (k : Nat) (a : Int), vu = .bool false ∧ vn = .int .u64 a ∧ vi = .int .i64 k ∧ k ≤ s.size ∧ Hid (a = (val up (s.data.toList.take k) : Nat)) ∧ Hid (allB up (s.data.toList.take k) = true))
    (fun _ _ vi => s.size - (intOf vi).toNat)
  case atStart => exact ⟨0, 0, rfl, rfl, rfl, by omega, Lib.hid (by simp [val]), Lib.hid (by simp [allB])⟩
  case round =>
    obtain ⟨k, a, rfl, rfl, rfl, hk, HX, HA⟩ := hrel
    by_cases hkn : k < s.size
    · have hc := HB.out k hkn
      obtain ⟨c, hcc⟩ : ∃ c : Nat, c = byn s k := ⟨_, rfl⟩
      have hc2 : W1.cell? ⟨w.heap.size, k, none⟩ = some (.int .u8 (c : Int)) := by
        rw [hc, hcc, getD_byn hkn]
      have hc256 : c < 256 := by rw [hcc]; exact byn_lt s k
      obtain ⟨q, hq⟩ : ∃ q, low c = q := ⟨_, rfl⟩
      have HQ := Lib.hid hq
      have HC := Lib.hid hcc
      have hkinds := low_kinds hc256
      rw [hq] at hkinds
      have hvb := val_bd (f := up) (k := k) (by omega) HA.out
      have a0 : 0 ≤ a := by rw [HX.out]; omega
      have a1 : a < 1152921504606846976 := by rw [HX.out]; omega
      have HX2 := Lib.hid (val_take up hkn)
      have HA2 := Lib.hid (all_take up hkn)
      have HNO := Lib.hid (all_not up hkn)
      rw [← hcc] at HX2 HA2 HNO
      clear hc hcc hq hvb
      rcases hkinds with ⟨h1, h2, hu⟩ | ⟨h1, h2, h3, h4, hu⟩ | ⟨h1, hu, h2⟩
      · have HU := Lib.hid hu
        have c95 : ((c : Int) == 95) = false := by simp; omega
        clear hu
        go_wp2
        refine ⟨⟨k + 1, a * 16 + ((c : Int) - 48), rfl, rfl, by go_num, by omega, Lib.hid (by rw [HX2.out, HU.out, HX.out]; omega), Lib.hid (by rw [HA2.out, HA.out, HU.out]; simp; omega)⟩, by simp [intOf]; omega⟩
      · have HU := Lib.hid hu
        have c95 : ((c : Int) == 95) = false := by simp; omega
        have c57 : decide ((c : Int) ≤ 57) = false := by simp; omega
        clear hu h2
        go_wp2_with fail
        go_at_call 26; refine (lower_of hc256 HQ.out _).mono ?_; rintro e w' ⟨rfl, rfl⟩
        go_wp2_with fail
        go_at_call 26; refine (lower_of hc256 HQ.out _).mono ?_; rintro e w' ⟨rfl, rfl⟩
        go_wp2_with fail
        go_at_call 26; refine (lower_of hc256 HQ.out _).mono ?_; rintro e w' ⟨rfl, rfl⟩
        go_wp2_with fail
        refine ⟨⟨k + 1, a * 16 + ((q : Int) - 97 + 10), rfl, rfl, by go_num, by omega, Lib.hid (by rw [HX2.out, HU.out, HX.out]; omega), Lib.hid (by rw [HA2.out, HA.out, HU.out]; simp; omega)⟩, by simp [intOf]; omega⟩
      · have HR := Lib.hid (pres_no (HNO.out (by rw [hu]; omega)))
        clear hu
        rcases h1 with h1 | h1 <;> rcases h2 with h2 | h2 | h2 <;> cases c95 : ((c : Int) == 95)
        · have d1 : decide ((48 : Int) ≤ (c : Int)) = false := by simp; omega
          have d2 : decide ((97 : Int) ≤ (q : Int)) = false := by simp; omega
          clear h2
          go_wp2_with fail
          go_at_call 26; refine (lower_of hc256 HQ.out _).mono ?_; rintro e w' ⟨rfl, rfl⟩
          go_wp2_with fail
          go_ret2
          exact ⟨by rw [HR.out]; rfl, HBW.out⟩
        · have d1 : decide ((48 : Int) ≤ (c : Int)) = false := by simp; omega
          have d2 : decide ((97 : Int) ≤ (q : Int)) = false := by simp; omega
          clear h2
          go_wp2_with fail
          go_at_call 26; refine (lower_of hc256 HQ.out _).mono ?_; rintro e w' ⟨rfl, rfl⟩
          go_wp2_with fail
          go_ret2
          exact ⟨by rw [HR.out]; rfl, HBW.out⟩
        · have d1 : decide ((48 : Int) ≤ (c : Int)) = false := by simp; omega
          have d3 : 97 ≤ q := by omega
          have d4 : q ≤ 122 := by omega
          have d6 : 103 ≤ q := by omega
          clear h2
          go_wp2_with fail
          go_at_call 26; refine (lower_of hc256 HQ.out _).mono ?_; rintro e w' ⟨rfl, rfl⟩
          go_wp2_with fail
          go_at_call 26; refine (lower_of hc256 HQ.out _).mono ?_; rintro e w' ⟨rfl, rfl⟩
          go_wp2_with fail
          go_at_call 26; refine (lower_of hc256 HQ.out _).mono ?_; rintro e w' ⟨rfl, rfl⟩
          go_wp2_with fail
          go_ret2
          exact ⟨by rw [HR.out]; rfl, HBW.out⟩
        · have d1 : decide ((48 : Int) ≤ (c : Int)) = false := by simp; omega
          have d3 : 97 ≤ q := by omega
          have d4 : q ≤ 122 := by omega
          have d6 : 103 ≤ q := by omega
          clear h2
          go_wp2_with fail
          go_at_call 26; refine (lower_of hc256 HQ.out _).mono ?_; rintro e w' ⟨rfl, rfl⟩
          go_wp2_with fail
          go_at_call 26; refine (lower_of hc256 HQ.out _).mono ?_; rintro e w' ⟨rfl, rfl⟩
          go_wp2_with fail
          go_at_call 26; refine (lower_of hc256 HQ.out _).mono ?_; rintro e w' ⟨rfl, rfl⟩
          go_wp2_with fail
          go_ret2
          exact ⟨by rw [HR.out]; rfl, HBW.out⟩
        · have d1 : decide ((48 : Int) ≤ (c : Int)) = false := by simp; omega
          have d3 : 97 ≤ q := by omega
          have d5 : decide ((q : Int) ≤ 122) = false := by simp; omega
          clear h2
          go_wp2_with fail
          go_at_call 26; refine (lower_of hc256 HQ.out _).mono ?_; rintro e w' ⟨rfl, rfl⟩
          go_wp2_with fail
          go_at_call 26; refine (lower_of hc256 HQ.out _).mono ?_; rintro e w' ⟨rfl, rfl⟩
          go_wp2_with fail
          go_ret2
          exact ⟨by rw [HR.out]; rfl, HBW.out⟩
        · have d1 : decide ((48 : Int) ≤ (c : Int)) = false := by simp; omega
          have d3 : 97 ≤ q := by omega
          have d5 : decide ((q : Int) ≤ 122) = false := by simp; omega
          clear h2
          go_wp2_with fail
          go_at_call 26; refine (lower_of hc256 HQ.out _).mono ?_; rintro e w' ⟨rfl, rfl⟩
          go_wp2_with fail
          go_at_call 26; refine (lower_of hc256 HQ.out _).mono ?_; rintro e w' ⟨rfl, rfl⟩
          go_wp2_with fail
          go_ret2
          exact ⟨by rw [HR.out]; rfl, HBW.out⟩
        · have d1 : decide ((c : Int) ≤ 57) = false := by simp; omega
          have d2 : decide ((97 : Int) ≤ (q : Int)) = false := by simp; omega
          have d7 : 48 ≤ c := by omega
          clear h2
          go_wp2_with fail
          go_at_call 26; refine (lower_of hc256 HQ.out _).mono ?_; rintro e w' ⟨rfl, rfl⟩
          go_wp2_with fail
          go_ret2
          exact ⟨by rw [HR.out]; rfl, HBW.out⟩
        · have d1 : decide ((c : Int) ≤ 57) = false := by simp; omega
          have d2 : decide ((97 : Int) ≤ (q : Int)) = false := by simp; omega
          have d7 : 48 ≤ c := by omega
          clear h2
          go_wp2_with fail
          go_at_call 26; refine (lower_of hc256 HQ.out _).mono ?_; rintro e w' ⟨rfl, rfl⟩
          go_wp2_with fail
          go_ret2
          exact ⟨by rw [HR.out]; rfl, HBW.out⟩
        · have d1 : decide ((c : Int) ≤ 57) = false := by simp; omega
          have d3 : 97 ≤ q := by omega
          have d4 : q ≤ 122 := by omega
          have d6 : 103 ≤ q := by omega
          have d7 : 48 ≤ c := by omega
          clear h2
          go_wp2_with fail
          go_at_call 26; refine (lower_of hc256 HQ.out _).mono ?_; rintro e w' ⟨rfl, rfl⟩
          go_wp2_with fail
          go_at_call 26; refine (lower_of hc256 HQ.out _).mono ?_; rintro e w' ⟨rfl, rfl⟩
          go_wp2_with fail
          go_at_call 26; refine (lower_of hc256 HQ.out _).mono ?_; rintro e w' ⟨rfl, rfl⟩
          go_wp2_with fail
          go_ret2
          exact ⟨by rw [HR.out]; rfl, HBW.out⟩
        · have d1 : decide ((c : Int) ≤ 57) = false := by simp; omega
          have d3 : 97 ≤ q := by omega
          have d4 : q ≤ 122 := by omega
          have d6 : 103 ≤ q := by omega
          have d7 : 48 ≤ c := by omega
          clear h2
          go_wp2_with fail
          go_at_call 26; refine (lower_of hc256 HQ.out _).mono ?_; rintro e w' ⟨rfl, rfl⟩
          go_wp2_with fail
          go_at_call 26; refine (lower_of hc256 HQ.out _).mono ?_; rintro e w' ⟨rfl, rfl⟩
          go_wp2_with fail
          go_at_call 26; refine (lower_of hc256 HQ.out _).mono ?_; rintro e w' ⟨rfl, rfl⟩
          go_wp2_with fail
          go_ret2
          exact ⟨by rw [HR.out]; rfl, HBW.out⟩
        · have d1 : decide ((c : Int) ≤ 57) = false := by simp; omega
          have d3 : 97 ≤ q := by omega
          have d5 : decide ((q : Int) ≤ 122) = false := by simp; omega
          have d7 : 48 ≤ c := by omega
          clear h2
          go_wp2_with fail
          go_at_call 26; refine (lower_of hc256 HQ.out _).mono ?_; rintro e w' ⟨rfl, rfl⟩
          go_wp2_with fail
          go_at_call 26; refine (lower_of hc256 HQ.out _).mono ?_; rintro e w' ⟨rfl, rfl⟩
          go_wp2_with fail
          go_ret2
          exact ⟨by rw [HR.out]; rfl, HBW.out⟩
        · have d1 : decide ((c : Int) ≤ 57) = false := by simp; omega
          have d3 : 97 ≤ q := by omega
          have d5 : decide ((q : Int) ≤ 122) = false := by simp; omega
          have d7 : 48 ≤ c := by omega
          clear h2
          go_wp2_with fail
          go_at_call 26; refine (lower_of hc256 HQ.out _).mono ?_; rintro e w' ⟨rfl, rfl⟩
          go_wp2_with fail
          go_at_call 26; refine (lower_of hc256 HQ.out _).mono ?_; rintro e w' ⟨rfl, rfl⟩
          go_wp2_with fail
          go_ret2
          exact ⟨by rw [HR.out]; rfl, HBW.out⟩
    · have hkk : s.size = k := by omega
      have htk : s.data.toList.take k = s.data.toList := List.take_of_length_le (by rw [list_len]; omega)
      have HR := Lib.hid (pres_ok (l := s.data.toList) (by rw [← htk]; exact HA.out))
      have HX2 : Hid (a = (val up s.data.toList : Nat)) := Lib.hid (by rw [HX.out, htk])
      have c5 : decide ((k : Int) < (s.size : Int)) = false := by simp; omega
      clear hkk htk
      go_wp2
      go_ret2
      exact ⟨by rw [HR.out, HX2.out]; rfl, HBW.out⟩
end Go.Proofs.YtchokhfcemeagaaDoor.score
