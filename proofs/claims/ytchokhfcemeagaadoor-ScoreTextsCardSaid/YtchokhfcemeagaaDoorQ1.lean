/- The walks of Text, and of the document's. -/
import Derived.Test.YtchokhfcemeagaaDoorF2
import Derived.Test.YtchokhfcemeagaaDoorFnQ
import Derived.OwnWalk
import Derived.WalkSmall
import Derived.Lib.OwnBridge
import Derived.Lib.Bytes
namespace Go.Proofs.YtchokhfcemeagaaDoor.score
open Go.RowKit Go.PlainAid
open Go.Proofs.YtchokhfcemeagaaDoor.fns

theorem infoByte : (Tryd.prog.info? 5).map (fun i => (i.zero, i.size, i.bytes)) = some (some (.int .u8 0), 1, 1) := by kernel_rfl
theorem made_one (z : Value) (n : Nat) : (madeCells #[z] n).toList = List.replicate n z := by
  simp [madeCells, Nat.mod_one, List.map_const']
theorem byteCells_at (l : List UInt8) (k : Nat) (b : UInt8) (h : l[k]? = some b) : (Lib.byteCells l)[k]? = some (.int .u8 (b.toNat : Int)) := by
  rw [Lib.byteCells, List.getElem?_map, h]; rfl
/-- a row that is filled from behind -/
def back (b i : Nat) : List Value := List.replicate (16 - i) (.int .u8 0) ++ Lib.byteCells (tl b i)
theorem back_zero (b : Nat) : back b 0 = List.replicate 16 (.int .u8 0) := by simp [back, tl, Lib.byteCells]
theorem back_all (b : Nat) : back b 16 = Lib.byteCells (tl b 16) := by simp [back]
theorem back_len (b : Nat) {i : Nat} (h : i ≤ 16) : (back b i).length = 16 := by simp [back, Lib.byteCells, tl_len]; omega
theorem back_set (b : Nat) {i : Nat} (h : i < 16) : (back b i).set (15 - i) (.int .u8 ((dgt (b / 16 ^ i % 16)).toNat : Int)) = back b (i + 1) := by
  unfold back
  rw [show 16 - i = (15 - i) + 1 by omega, List.replicate_succ', List.append_assoc, List.set_append_right _ _ (by simp), show 16 - (i + 1) = 15 - i by omega, tl_succ]
  simp [Lib.byteCells]

set_option maxHeartbeats 800000 in
theorem Text_any (b0 : Nat) (w : World) (hw : W64 b0) :
    Calls Tryd.prog 7 #[.float .f64 b0] w fun e w' => e = .returned (.string (text b0)) ∧ Below w.heap.size w w' := by
  obtain ⟨i0, hi, hz0, hz1, hz2⟩ := info_parts infoByte
  have hd := bits_run
  have hgb := get_bt ⟨#[48, 49, 50, 51, 52, 53, 54, 55, 56, 57, 97, 98, 99, 100, 101, 102]⟩
  have hpw := plain_w hw
  obtain ⟨b, hb⟩ : ∃ b, b = plain b0 := ⟨_, rfl⟩
  rw [← hb] at hpw
  have HP := Lib.hid hb
  have HT : Hid (text b0 = ⟨(tl b 16).toArray⟩) := Lib.hid (by unfold text; rw [hb])
  have HPW := Lib.hid hpw
  have hsl : (tl b 16).length = 16 := tl_len b 16
  have HSL := Lib.hid hsl
  clear hpw hsl
  cases hn : isNan b0
  · rw [plain_no hn] at hb
    subst hb
    have HN := Lib.hid hn
    clear hn
    go_enter Tryd.func7, Tryd.ntmps7
    go_wp2_with fail
    go_at_call 15; refine (noNumber_of HN.out _).mono ?_; rintro e w' ⟨rfl, rfl⟩
    go_wp2_with (refine wpList_make_full _ rfl (.const (.int .i64 16)) (.const (.int .i64 16)) 42 rfl w.heap.size 5 i0 (.int .u8 0) 1 Tryd.underlying42 hi hz0 hz1 .i64 .i64 _ _ 16 rfl rfl rfl rfl (by rw [hz2]; omega) (by unfold maxLen; omega) (Nat.le_refl _) ?_)
    intro w1 hown hgrow
    have hbl : Below w.heap.size w w1 := (Below.refl _ w).grown hgrow (Nat.le_refl _) (fun k hk => by cases hk)
    rw [show (madeCells #[Value.int IntKind.u8 0] 16).toList = back b 0 by rw [back_zero]; exact made_one _ _] at hown
    clear hgrow
    go_wp2
    go_loopw [3, 13] (fun v i wr => ∃ k x : Nat, k ≤ 16 ∧ i = .int .i64 k ∧ v = .int .u64 x ∧ Hid (x = b / 16 ^ k) ∧ wr.ownsRow w.heap.size 5 1 (.slice (some ⟨w.heap.size, 0, none⟩) 16 16) 16 (back b k) ∧ Below w.heap.size w wr) (fun _ i _ => 16 - (intOf i).toNat)
    case atStart => exact ⟨0, b, by omega, rfl, rfl, Lib.hid (by simp), hown, hbl⟩
    case round =>
      clear hown hbl
      obtain ⟨k, x, hk, rfl, rfl, HX, hown, hbl⟩ := hrel
      obtain ⟨wo, rfl⟩ : ∃ wo : World, wo = wr := ⟨_, rfl⟩
      by_cases h1 : k < 16
      · have hf := hown.frozenAt (15 - k)
        have hx := hown.cellAt (15 - k) (by omega)
        obtain ⟨u, hu⟩ : ∃ u, (back b k)[15 - k]? = some u := ⟨_, List.getElem?_eq_getElem (by rw [back_len b hk]; omega)⟩
        rw [hu] at hx
        have hm : x % 16 < 16 := Nat.mod_lt _ (by decide)
        have hst := hown.stored (15 - k) (.int .u8 (bt ⟨#[48, 49, 50, 51, 52, 53, 54, 55, 56, 57, 97, 98, 99, 100, 101, 102]⟩ (x % 16)))
        rw [show bt ⟨#[48, 49, 50, 51, 52, 53, 54, 55, 56, 57, 97, 98, 99, 100, 101, 102]⟩ (x % 16) = ((dgt (x % 16)).toNat : Int) from bt_hex hm, HX.out, back_set b h1, ← HX.out] at hst
        have HST := Lib.hid hst.1
        have HE : Hid (bt ⟨#[48, 49, 50, 51, 52, 53, 54, 55, 56, 57, 97, 98, 99, 100, 101, 102]⟩ (x % 16) = ((dgt (x % 16)).toNat : Int)) := Lib.hid (bt_hex hm)
        have HB := Lib.hid hbl
        have HW : Hid (IntKind.u64.wrap ((x : Int) / 16) = ((x / 16 : Nat) : Int)) := Lib.hid (by
          have h1 := HPW.out
          have h2 : x ≤ b := by rw [HX.out]; exact Nat.div_le_self _ _
          unfold W64 at h1
          rw [IntKind.wrap_u64]; omega)
        clear hown hbl hu hst
        go_wp2_with fail
        refine ⟨⟨k + 1, x / 16, by omega, by go_num, by rw [HW.out], Lib.hid (by rw [HX.out, div_step]), ?_, HB.out.setCell (p := ⟨w.heap.size, 15 - k, none⟩) (Nat.le_refl _) _⟩, by simp [intOf]; omega⟩
        rw [HE.out]; exact HST.out
      · obtain rfl : 16 = k := by omega
        have hown' := hown
        rw [back_all] at hown'
        have hcv := run_convert_bytes_back (P := Tryd.prog) wo 42 9 5 ⟨w.heap.size, 0, none⟩ 16 (tl b 16) Tryd.underlying42 Tryd.underlying5 Tryd.underlying9 (fun j hj => hown'.cells (g := w.heap.size) rfl j _ (byteCells_at _ _ _ (List.getElem?_eq_getElem hj)))
        rw [HSL.out] at hcv
        have HB := Lib.hid hbl
        clear hown hown' hbl
        go_wp2_with fail
        go_ret
        exact ⟨by rw [HT.out]; rfl, HB.out⟩
  · rw [plain_yes hn] at hb
    have HBN := Lib.hid hb
    clear hb
    have HN := Lib.hid hn
    clear hn
    go_enter Tryd.func7, Tryd.ntmps7
    go_wp2_with fail
    go_at_call 15; refine (noNumber_of HN.out _).mono ?_; rintro e w' ⟨rfl, rfl⟩
    go_wp2_with (refine wpList_make_full _ rfl (.const (.int .i64 16)) (.const (.int .i64 16)) 42 rfl w.heap.size 5 i0 (.int .u8 0) 1 Tryd.underlying42 hi hz0 hz1 .i64 .i64 _ _ 16 rfl rfl rfl rfl (by rw [hz2]; omega) (by unfold maxLen; omega) (Nat.le_refl _) ?_)
    intro w1 hown hgrow
    have hbl : Below w.heap.size w w1 := (Below.refl _ w).grown hgrow (Nat.le_refl _) (fun k hk => by cases hk)
    rw [show (madeCells #[Value.int IntKind.u8 0] 16).toList = back b 0 by rw [back_zero]; exact made_one _ _] at hown
    clear hgrow
    go_wp2
    go_loopw [3, 13] (fun v i wr => ∃ k x : Nat, k ≤ 16 ∧ i = .int .i64 k ∧ v = .int .u64 x ∧ Hid (x = b / 16 ^ k) ∧ wr.ownsRow w.heap.size 5 1 (.slice (some ⟨w.heap.size, 0, none⟩) 16 16) 16 (back b k) ∧ Below w.heap.size w wr) (fun _ i _ => 16 - (intOf i).toNat)
    case atStart => exact ⟨0, b, by omega, rfl, by rw [HBN.out]; rfl, Lib.hid (by simp), hown, hbl⟩
    case round =>
      clear hown hbl
      obtain ⟨k, x, hk, rfl, rfl, HX, hown, hbl⟩ := hrel
      obtain ⟨wo, rfl⟩ : ∃ wo : World, wo = wr := ⟨_, rfl⟩
      by_cases h1 : k < 16
      · have hf := hown.frozenAt (15 - k)
        have hx := hown.cellAt (15 - k) (by omega)
        obtain ⟨u, hu⟩ : ∃ u, (back b k)[15 - k]? = some u := ⟨_, List.getElem?_eq_getElem (by rw [back_len b hk]; omega)⟩
        rw [hu] at hx
        have hm : x % 16 < 16 := Nat.mod_lt _ (by decide)
        have hst := hown.stored (15 - k) (.int .u8 (bt ⟨#[48, 49, 50, 51, 52, 53, 54, 55, 56, 57, 97, 98, 99, 100, 101, 102]⟩ (x % 16)))
        rw [show bt ⟨#[48, 49, 50, 51, 52, 53, 54, 55, 56, 57, 97, 98, 99, 100, 101, 102]⟩ (x % 16) = ((dgt (x % 16)).toNat : Int) from bt_hex hm, HX.out, back_set b h1, ← HX.out] at hst
        have HST := Lib.hid hst.1
        have HE : Hid (bt ⟨#[48, 49, 50, 51, 52, 53, 54, 55, 56, 57, 97, 98, 99, 100, 101, 102]⟩ (x % 16) = ((dgt (x % 16)).toNat : Int)) := Lib.hid (bt_hex hm)
        have HB := Lib.hid hbl
        have HW : Hid (IntKind.u64.wrap ((x : Int) / 16) = ((x / 16 : Nat) : Int)) := Lib.hid (by
          have h1 := HPW.out
          have h2 : x ≤ b := by rw [HX.out]; exact Nat.div_le_self _ _
          unfold W64 at h1
          rw [IntKind.wrap_u64]; omega)
        clear hown hbl hu hst
        go_wp2_with fail
        refine ⟨⟨k + 1, x / 16, by omega, by go_num, by rw [HW.out], Lib.hid (by rw [HX.out, div_step]), ?_, HB.out.setCell (p := ⟨w.heap.size, 15 - k, none⟩) (Nat.le_refl _) _⟩, by simp [intOf]; omega⟩
        rw [HE.out]; exact HST.out
      · obtain rfl : 16 = k := by omega
        have hown' := hown
        rw [back_all] at hown'
        have hcv := run_convert_bytes_back (P := Tryd.prog) wo 42 9 5 ⟨w.heap.size, 0, none⟩ 16 (tl b 16) Tryd.underlying42 Tryd.underlying5 Tryd.underlying9 (fun j hj => hown'.cells (g := w.heap.size) rfl j _ (byteCells_at _ _ _ (List.getElem?_eq_getElem hj)))
        rw [HSL.out] at hcv
        have HB := Lib.hid hbl
        clear hown hown' hbl
        go_wp2_with fail
        go_ret
        exact ⟨by rw [HT.out]; rfl, HB.out⟩

theorem ext_hex {d : Nat} (h : d < 16) : hexS.extract d (d + 1) = ⟨#[dgt d]⟩ := by
  have all : ∀ j : Fin 16, hexS.extract j.val (j.val + 1) = ⟨#[dgt j.val]⟩ := by decide +kernel
  exact all ⟨d, h⟩
theorem slice_hex {x : Nat} (h : x % 16 < 16) (w : World) : (Instr.slice 9 (.string ⟨#[48, 49, 50, 51, 52, 53, 54, 55, 56, 57, 97, 98, 99, 100, 101, 102]⟩) (some (.int .i64 ((x : Int) % 16))) (some (.int .i64 ((x : Int) % 16 + 1))) none).run Tryd.prog w = .ok (.string ⟨#[dgt (x % 16)]⟩) w := by
  rw [run_slice_string w 9 _ _ _ _ _ Tryd.underlying9 (by omega) (by omega) (by show ((x : Int) % 16 + 1) ≤ ((16 : Nat) : Int); omega)]
  rw [show ((x : Int) % 16).toNat = x % 16 by omega, show ((x : Int) % 16 + 1).toNat = x % 16 + 1 by omega]
  rw [← ext_hex h]; rfl
theorem str_cons (c : UInt8) (l : List UInt8) : Value.string (⟨#[c]⟩ ++ ⟨l.toArray⟩) = .string ⟨(c :: l).toArray⟩ := by
  rw [ByteArray.mk_append_mk]; simp
theorem refText_any (b0 : Nat) (w : World) (hw : W64 b0) :
    Calls Tryd.prog 9 #[.int .u64 b0] w fun e w' => e = .returned (.string (text b0)) ∧ w = w' := by
  have hpw := plain_w hw
  have HT : Hid (text b0 = ⟨(tl (plain b0) 16).toArray⟩) := Lib.hid rfl
  obtain ⟨b, hb⟩ : ∃ b, b = plain b0 := ⟨_, rfl⟩
  rw [← hb] at hpw HT
  have HB := Lib.hid hb
  have HPW := Lib.hid hpw
  clear hpw hb
  go_enter Tryd.func9, Tryd.ntmps9
  go_wp2_with fail
  go_at_call 13; refine (refPlain_any _ _).mono ?_; rintro e w' ⟨rfl, rfl⟩
  rw [← HB.out]
  go_wp2_with fail
  go_loopw [0, 3, 4] (fun v s i wr => ∃ (k x : Nat) (l : List UInt8), k ≤ 16 ∧ i = .int .i64 k ∧ v = .int .u64 x ∧ s = .string ⟨l.toArray⟩ ∧ Hid (x = b / 16 ^ k) ∧ Hid (l = tl b k) ∧ wr = w) (fun _ _ i _ => 16 - (intOf i).toNat)
  case atStart => exact ⟨0, b, [], by omega, rfl, rfl, rfl, Lib.hid (by simp), Lib.hid rfl, rfl⟩
  case round =>
    obtain ⟨k, x, l, hk, rfl, rfl, rfl, HX, HL, rfl⟩ := hrel
    by_cases h1 : k < 16
    · have hm : x % 16 < 16 := Nat.mod_lt _ (by decide)
      have hxw : x < 18446744073709551616 := by
        have h1 := HPW.out
        have h2 : x ≤ b := by rw [HX.out]; exact Nat.div_le_self _ _
        unfold W64 at h1
        omega
      have HW : Hid (IntKind.u64.wrap ((x : Int) / 16) = ((x / 16 : Nat) : Int)) := Lib.hid (by rw [IntKind.wrap_u64]; omega)
      have hsl := slice_hex hm wr
      have hll : l.length ≤ 16 := by rw [HL.out, tl_len]; omega
      go_wp2_with fail
      refine ⟨⟨k + 1, x / 16, tl b (k + 1), by omega, by go_num, by go_num, by rw [str_cons, tl_succ, HL.out, HX.out], Lib.hid (by rw [HX.out, div_step]), Lib.hid rfl, by trivial⟩, by simp [intOf]; omega⟩
    · obtain rfl : 16 = k := by omega
      go_wp2_with fail
      go_ret
      exact ⟨by rw [HT.out, HL.out]; rfl, rfl⟩
end Go.Proofs.YtchokhfcemeagaaDoor.score
