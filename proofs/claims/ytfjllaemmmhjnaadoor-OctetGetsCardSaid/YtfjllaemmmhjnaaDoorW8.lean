/- The walk of the statement on readers. -/
import Derived.Test.YtfjllaemmmhjnaaDoorW2
import Derived.Test.YtfjllaemmmhjnaaDoorW4
import Derived.Test.YtfjllaemmmhjnaaDoorW7
namespace Go.Proofs.YtfjllaemmmhjnaaDoor.oct
open Go.RowKit Go.PlainAid
open Go.Proofs.YtfjllaemmmhjnaaDoor.fns

theorem get_parts (s : ByteArray) (a : Int) (w : World) (hs : s.size ≤ maxLen) :
    Calls Tryd.prog 8 #[.string s, .int .i64 a] w fun e w' => e = .returned (.tuple #[.int .u32 (getAt s a).1, .int .i64 (getAt s a).2.1, .int .i64 (getAt s a).2.2]) ∧ w = w' := get_any s a w hs
theorem refGet_parts (s : ByteArray) (a : Int) (w : World) (hs : s.size ≤ maxLen) :
    Calls Tryd.prog 13 #[.string s, .int .i64 a] w fun e w' => e = .returned (.tuple #[.int .u32 (getAt s a).1, .int .i64 (getAt s a).2.1, .int .i64 (getAt s a).2.2]) ∧ w = w' := refGet_any s a w hs
theorem nat_parts (s : ByteArray) (a : Int) (w : World) (hs : s.size ≤ maxLen) :
    Calls Tryd.prog 14 #[.string s, .int .i64 a] w fun e w' => e = .returned (.tuple #[.int .i64 (natAt s a).1, .int .i64 (natAt s a).2.1, .int .i64 (natAt s a).2.2]) ∧ w = w' := nat_any s a w hs
theorem refNat_parts (s : ByteArray) (a : Int) (w : World) (hs : s.size ≤ maxLen) :
    Calls Tryd.prog 15 #[.string s, .int .i64 a] w fun e w' => e = .returned (.tuple #[.int .i64 (natAt s a).1, .int .i64 (natAt s a).2.1, .int .i64 (natAt s a).2.2]) ∧ w = w' := refNat_any s a w hs

theorem cut_size (s : ByteArray) (n : Nat) (hn : n ≤ maxLen) : (s.extract 0 n).size ≤ maxLen := by
  rw [ByteArray.size_extract]; omega

theorem gets_walk (s : ByteArray) (a : Int) (w : World) (hs : s.size ≤ maxLen) (hT : Tab w) :
    Calls Tryd.prog 4 #[.string s, .int .i64 a] w fun e w' => e = .returned (.bool true) ∧ Below w.heap.size w w' := by
  have hs' := hs
  unfold maxLen at hs'
  by_cases h : 2000 < s.size
  · go_enter Tryd.func4, Tryd.ntmps4
    go_wp2_with fail
    go_at_call 8; refine (get_parts _ _ _ (cut_size s 2000 (by decide))).mono ?_; rintro e w' ⟨rfl, rfl⟩
    go_wp2_with fail
    go_at_call 13; refine (refGet_parts _ _ _ (cut_size s 2000 (by decide))).mono ?_; rintro e w' ⟨rfl, rfl⟩
    go_wp2_with fail
    go_at_call 14; refine (nat_parts _ _ _ (cut_size s 2000 (by decide))).mono ?_; rintro e w' ⟨rfl, rfl⟩
    go_wp2_with fail
    go_at_call 15; refine (refNat_parts _ _ _ (cut_size s 2000 (by decide))).mono ?_; rintro e w' ⟨rfl, rfl⟩
    go_wp2_with fail
    go_at_call 12; refine (lives_any _ hT).mono ?_; rintro e w' ⟨rfl, hb⟩
    go_wp2_with fail
    go_ret
    exact ⟨rfl, hb⟩
  · go_enter Tryd.func4, Tryd.ntmps4
    go_wp2_with fail
    go_at_call 8; refine (get_parts _ _ _ hs).mono ?_; rintro e w' ⟨rfl, rfl⟩
    go_wp2_with fail
    go_at_call 13; refine (refGet_parts _ _ _ hs).mono ?_; rintro e w' ⟨rfl, rfl⟩
    go_wp2_with fail
    go_at_call 14; refine (nat_parts _ _ _ hs).mono ?_; rintro e w' ⟨rfl, rfl⟩
    go_wp2_with fail
    go_at_call 15; refine (refNat_parts _ _ _ hs).mono ?_; rintro e w' ⟨rfl, rfl⟩
    go_wp2_with fail
    go_at_call 12; refine (lives_any _ hT).mono ?_; rintro e w' ⟨rfl, hb⟩
    go_wp2_with fail
    go_ret
    exact ⟨rfl, hb⟩
end Go.Proofs.YtfjllaemmmhjnaaDoor.oct
