/- The walks on lines and words. -/
import Derived.Test.YtfjllaemmmhjnaaDoorFnL
import Derived.Test.YtfjllaemmmhjnaaDoorW7
import Derived.Test.YtfjllaemmmhjnaaDoorW6
import Derived.WalkSpells
import Derived.Deep.QuietTactic
import Derived.BigQuiet
import Derived.WalkSmall
namespace Go.Proofs.YtfjllaemmmhjnaaDoor.oct
open Go.RowKit Go.PlainAid
open Go.Proofs.YtfjllaemmmhjnaaDoor.fns
set_option linter.unusedVariables false

/-- a text, a number and an error, as Go hands them back -/
def lineV (r : ByteArray × Int × Int) : Value := .tuple #[.string r.1, .int .i64 r.2.1, .int .i64 r.2.2]
theorem line_ret {a : ByteArray} {b c : Int} {r : ByteArray × Int × Int} (h : r = (a, b, c)) : Ending.returned (.tuple #[.string a, .int .i64 b, .int .i64 c]) = .returned (lineV r) := by subst h; rfl

theorem clone_any (s : ByteArray) (w : World) (hs : s.size ≤ 2000) :
    Calls Tryd.prog 30 #[.string s] w fun e w' => e = .returned (.string s) ∧ Below w.heap.size w w' := by
  go_enter Tryd.func30, Tryd.ntmps30
  go_wp2_with (go_at_call 34; refine (Tryd.stringslite_Clone s _ (by omega)).mono ?_; rintro e w' ⟨rfl, hb⟩)
  go_ret
  exact ⟨rfl, hb⟩

theorem line_any (s : ByteArray) (a : Int) (w : World) (hs : s.size ≤ 2000) :
    Calls Tryd.prog 16 #[.string s, .int .i64 a] w fun e w' => e = .returned (lineV (lineAt s a)) ∧ Below w.heap.size w w' := by
  by_cases ha : a < 0 ∨ (s.size : Int) < a
  · have HR := Lib.hid (lineAt_arg ha)
    go_enter Tryd.func16, Tryd.ntmps16
    go_wp2_with (go_at_call 26; refine (isPlace_no _ _ _ ha).mono ?_; rintro e w' ⟨rfl, rfl⟩)
    go_ret3
    exact ⟨line_ret HR.out, Below.refl _ _⟩
  · obtain ⟨n, rfl⟩ : ∃ n : Nat, a = n := ⟨a.toNat, by omega⟩
    have hn : n ≤ s.size := by omega
    clear ha
    have hge := Lib.indexByte_ge (s.data.toList.drop n) 10
    have hx : (s.extract n s.size).data.toList = s.data.toList.drop n := Lib.extract_to_end s n
    have HX := Lib.hid hx
    have hcall := fun w => Tryd.strings_IndexByte (s.extract n s.size) 10 w
    rw [hx, show (10 : Int).toNat.toUInt8 = 10 by rfl] at hcall
    clear hx
    have HC := Lib.hid hcall
    clear hcall
    by_cases hi : Lib.indexByte (s.data.toList.drop n) 10 < 0
    · have HR := Lib.hid (lineAt_none hn hi)
      generalize Lib.indexByte (s.data.toList.drop n) 10 = ix at HC hi hge
      go_enter Tryd.func16, Tryd.ntmps16
      go_wp2_with (first | (go_at_call 26; refine (isPlace_yes _ _ _ (by omega) (by omega)).mono ?_; rintro e w' ⟨rfl, rfl⟩) | (go_at_call 29; refine (HC.out _).mono ?_; rintro e w' ⟨rfl, rfl⟩))
      go_ret3
      exact ⟨line_ret HR.out, Below.refl _ _⟩
    · obtain ⟨k, hk⟩ : ∃ k : Nat, Lib.indexByte (s.data.toList.drop n) 10 = k := ⟨(Lib.indexByte (s.data.toList.drop n) 10).toNat, by omega⟩
      have HR := Lib.hid (lineAt_hit hn hk)
      have hlt : n + k < s.size := by
        have h1 := (Lib.indexByte_some hk).1
        have := (List.getElem?_eq_some_iff.1 h1).1
        simp at this
        omega
      rw [hk] at HC
      have hz : (s.extract n (n + k)).size ≤ 2000 := by rw [ByteArray.size_extract]; omega
      clear hi hk hge
      go_enter Tryd.func16, Tryd.ntmps16
      go_wp2_with fail
      go_at_call 26; refine (isPlace_yes _ _ _ (by omega) (by omega)).mono ?_; rintro e w' ⟨rfl, rfl⟩
      go_wp2_with fail
      go_at_call 29; refine (HC.out _).mono ?_; rintro e w' ⟨rfl, rfl⟩
      go_wp2_with fail
      go_at_call 30; refine (clone_any _ _ hz).mono ?_; rintro e w' ⟨rfl, hb⟩
      go_wp2_with fail
      go_ret3
      exact ⟨line_ret HR.out, hb⟩

theorem refLine_any (s : ByteArray) (a : Int) (w : World) (hs : s.size ≤ 2000) :
    Calls Tryd.prog 17 #[.string s, .int .i64 a] w fun e w' => e = .returned (lineV (lineAt s a)) ∧ w = w' := by
  by_cases ha : a < 0 ∨ (s.size : Int) < a
  · have HR := Lib.hid (lineAt_arg ha)
    by_cases h0 : a < 0
    · clear ha
      go_enter Tryd.func17, Tryd.ntmps17
      go_wp2
      go_ret3
      exact ⟨line_ret HR.out, rfl⟩
    · have h1 : (s.size : Int) < a := by omega
      clear ha
      go_enter Tryd.func17, Tryd.ntmps17
      go_wp2
      go_ret3
      exact ⟨line_ret HR.out, rfl⟩
  · obtain ⟨n, rfl⟩ : ∃ n : Nat, a = n := ⟨a.toNat, by omega⟩
    have hn : n ≤ s.size := by omega
    clear ha
    have hb := get_bt s
    go_enter Tryd.func17, Tryd.ntmps17
    go_wp2
    go_loop [7] (fun i => ∃ k : Nat, n + k ≤ s.size ∧ i = .int .i64 ((n : Int) + k) ∧ ∀ j, j < k → (s.data.toList.drop n)[j]? ≠ some 10) (fun i => s.size - (intOf i).toNat)
    case atStart => exact ⟨0, by omega, by simp, fun j hj => by omega⟩
    case round =>
      obtain ⟨k, hk, rfl, hno⟩ := hrel
      have HNO := Lib.hid hno
      clear hno
      by_cases h1 : n + k < s.size
      · have q0 := bt_nonneg s (n + k)
        have q1 := bt_le s (n + k)
        have hat := at_iff (c := 10) h1
        have HA := Lib.hid hat
        clear hat
        by_cases h2 : bt s (n + k) = 10
        · have HR := Lib.hid (lineAt_hit hn (idx_hit k _ 10 HNO.out (by rw [List.getElem?_drop]; exact HA.out.2 h2)))
          have c1 : (bt s (n + k) == 10) = true := by simp [h2]
          clear h2
          go_wp2
          go_ret3
          exact ⟨line_ret HR.out, rfl⟩
        · have c1 : (bt s (n + k) == 10) = false := by simp [h2]
          have HN := Lib.hid h2
          clear h2
          go_wp2
          go_round
          case rel => exact ⟨k + 1, by omega, by go_num, fun j hj => by
            by_cases e : j = k
            · rw [e, List.getElem?_drop]; exact fun h => HN.out (HA.out.1 h)
            · exact HNO.out j (by omega)⟩
          case measure => simp [intOf]; omega
      · have hend : n + k = s.size := by omega
        have HR := Lib.hid (lineAt_none hn (by
          rw [idx_none _ 10 (fun j => by
            by_cases hj : j < k
            · exact HNO.out j hj
            · rw [List.getElem?_eq_none (by simp; omega)]; simp)]
          decide))
        have c1 : decide ((n : Int) + (k : Int) < (s.size : Int)) = false := by simp; omega
        clear hend
        go_wp2
        go_ret3
        exact ⟨line_ret HR.out, rfl⟩
end Go.Proofs.YtfjllaemmmhjnaaDoor.oct
