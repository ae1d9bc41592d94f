/- The walk of the statement on a nil heap. -/
import Derived.Test.YtpcpjpcejcgodaaKb
namespace Go.Proofs.Ytpcpjpcejcgodaa.heap
open Go.RowKit
open Go.Proofs.Ytpcpjpcejcgodaa.fns Go.Proofs.Ytpcpjpcejcgodaa.hpf Go.Proofs.Ytpcpjpcejcgodaa.ints

theorem none_walk (x b : Int) (w : World) :
    Calls Try.prog 4 #[.int .i64 x, .int .u64 b] w fun e w' => e = .returned (.bool true) ∧ Below w.heap.size w w' := by
  have hfe : ∀ w : World, (binOp .eql 28 (.float .f64 0) (.float .f64 0)).run Try.prog w = .ok (.bool true) w := fun w => by kernel_rfl
  go_enter Try.func4, Try.ntmps4
  go_wp2_with fail
  go_at_call 9; refine (Pop_nil _).mono ?_; rintro e w' ⟨rfl, rfl⟩
  go_wp2_with fail
  go_at_call 6; refine (Push_nil _ _).mono ?_; rintro e w' ⟨rfl, rfl⟩
  go_wp2_with fail
  go_at_call 8; refine (score.Of_any _ _).mono ?_; rintro e w' ⟨rfl, rfl⟩
  go_wp2_with fail
  go_at_call 7; refine (Set_nil _ _ _).mono ?_; rintro e w' ⟨rfl, rfl⟩
  go_wp2_with fail
  go_at_call 11; refine (Score_nil _ _).mono ?_; rintro e w' ⟨rfl, rfl⟩
  go_wp2_with fail
  go_at_call 14; refine (Has_nil _ _).mono ?_; rintro e w' ⟨rfl, rfl⟩
  go_wp2_with fail
  go_at_call 12; refine (Len_nil _).mono ?_; rintro e w' ⟨rfl, rfl⟩
  go_wp2_with fail
  go_at_call 15; refine (List_nil _).mono ?_; rintro e w' ⟨rfl, rfl⟩
  go_wp2_with fail
  go_at_call 16; refine (Clone_nil _).mono ?_; rintro e w' ⟨rfl, rfl⟩
  go_wp2_with fail
  go_at_call 13; refine (lives_any _).mono ?_; rintro e w' ⟨rfl, hb⟩
  have HB := Lib.hid hb
  clear hb
  go_wp2_with fail
  go_ret
  exact ⟨rfl, HB.out⟩
end Go.Proofs.Ytpcpjpcejcgodaa.heap
