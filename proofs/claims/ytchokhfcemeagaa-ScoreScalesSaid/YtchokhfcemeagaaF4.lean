/- The walk of the statement on any two scores' order. -/
import Derived.Test.YtchokhfcemeagaaF3
namespace Go.Proofs.Ytchokhfcemeagaa.score
open Go.RowKit
open Go.Proofs.Ytchokhfcemeagaa.fns Go.Proofs.Ytchokhfcemeagaa.nats

set_option maxHeartbeats 800000 in
theorem orders_small (x y : Nat) (a : Option Addr) (n cap : Nat) (bs : List Nat) (w : World) (hx : W64 x) (hy : W64 y) (hv : Rd U w (.slice a n cap) bs) (hvw : AllW bs) (hn : n ≤ 300) :
    Calls Try.prog 3 #[.int .u64 x, .int .u64 y, .slice a n cap] w fun e w' => e = .returned (.bool true) ∧ Below w.heap.size w w' := by
  obtain ⟨hlen, hcap, hmax⟩ := rd_len hv
  unfold maxLen at hmax
  have HV := Lib.hid hv
  have HW := Lib.hid hvw
  have HL : Hid (bs.length ≤ 300) := Lib.hid (by omega)
  have c1 : decide ((300 : Int) < (n : Int)) = false := by simp; omega
  clear hlen
  clear hv hvw
  go_enter Try.func3, Try.ntmps3
  go_wp2_with fail
  go_at_call 5; refine (Of_nat _ _).mono ?_; rintro e w' ⟨rfl, rfl⟩
  go_wp2_with fail
  go_at_call 5; refine (Of_nat _ _).mono ?_; rintro e w' ⟨rfl, rfl⟩
  go_wp2_with fail
  go_at_call 6; refine (Key_any _ _ hx).mono ?_; rintro e w' ⟨rfl, rfl⟩
  go_wp2_with fail
  go_at_call 7; refine (refKey_any _ _ hx).mono ?_; rintro e w' ⟨rfl, rfl⟩
  go_wp2_with fail
  go_at_call 8; refine (Less_any _ _ _ hx hy).mono ?_; rintro e w' ⟨rfl, rfl⟩
  go_wp2_with fail
  go_at_call 7; refine (refKey_any _ _ hx).mono ?_; rintro e w' ⟨rfl, rfl⟩
  go_wp2_with fail
  go_at_call 7; refine (refKey_any _ _ hy).mono ?_; rintro e w' ⟨rfl, rfl⟩
  go_wp2_with fail
  go_at_call 8; refine (Less_any _ _ _ hy hx).mono ?_; rintro e w' ⟨rfl, rfl⟩
  go_wp2_with fail
  go_at_call 7; refine (refKey_any _ _ hy).mono ?_; rintro e w' ⟨rfl, rfl⟩
  go_wp2_with fail
  go_at_call 7; refine (refKey_any _ _ hx).mono ?_; rintro e w' ⟨rfl, rfl⟩
  go_wp2_with fail
  go_at_call 10; refine (of_any bs _ _ HV.out (by have := HL.out; omega)).mono ?_; rintro e w1 ⟨v1, rfl, hr1, hb1⟩
  have HR1 := Lib.hid hr1
  have HB1 := Lib.hid hb1
  have HV1 := Lib.hid (HV.out.on hb1)
  clear hr1 hb1
  go_wp2_with fail
  go_at_call 9; refine (Most_any bs _ _ HR1.out HW.out).mono ?_; rintro e w' ⟨rfl, rfl⟩
  go_wp2_with fail
  go_at_call 11; refine (refMost_any bs _ _ HV1.out HW.out).mono ?_; rintro e w2 ⟨rfl, hb2⟩
  have HB2 := Lib.hid hb2
  clear hb2
  go_wp2_with fail
  go_at_call 12; refine (lives_any _).mono ?_; rintro e w' ⟨rfl, rfl⟩
  go_wp2_with fail
  go_ret
  exact ⟨rfl, (HB1.out.trans (HB2.out.mono HB1.out.size)).drew⟩
set_option maxHeartbeats 800000 in
theorem orders_big (x y : Nat) (ad : Addr) (n cap : Nat) (l0 : List Nat) (w : World) (hx : W64 x) (hy : W64 y) (hv0 : Rd U w (.slice (some ad) n cap) l0) (hvw0 : AllW l0) (hn : 300 < n) :
    Calls Try.prog 3 #[.int .u64 x, .int .u64 y, .slice (some ad) n cap] w fun e w' => e = .returned (.bool true) ∧ Below w.heap.size w w' := by
  obtain ⟨-, hcap, hmax⟩ := rd_len hv0
  unfold maxLen at hmax
  obtain ⟨bs, hls⟩ : ∃ bs : List Nat, bs = l0.take 300 := ⟨_, rfl⟩
  have hv := rd_take hv0 (k := 300) (by omega)
  rw [← hls] at hv
  have hvw : AllW bs := hls ▸ hvw0.take 300
  have HL : Hid (bs.length ≤ 300) := Lib.hid (by have := (rd_len hv).1; omega)
  have HV := Lib.hid hv
  have HW := Lib.hid hvw
  clear hv0 hvw0 hls
  clear hv hvw
  go_enter Try.func3, Try.ntmps3
  go_wp2_with fail
  go_at_call 5; refine (Of_nat _ _).mono ?_; rintro e w' ⟨rfl, rfl⟩
  go_wp2_with fail
  go_at_call 5; refine (Of_nat _ _).mono ?_; rintro e w' ⟨rfl, rfl⟩
  go_wp2_with fail
  go_at_call 6; refine (Key_any _ _ hx).mono ?_; rintro e w' ⟨rfl, rfl⟩
  go_wp2_with fail
  go_at_call 7; refine (refKey_any _ _ hx).mono ?_; rintro e w' ⟨rfl, rfl⟩
  go_wp2_with fail
  go_at_call 8; refine (Less_any _ _ _ hx hy).mono ?_; rintro e w' ⟨rfl, rfl⟩
  go_wp2_with fail
  go_at_call 7; refine (refKey_any _ _ hx).mono ?_; rintro e w' ⟨rfl, rfl⟩
  go_wp2_with fail
  go_at_call 7; refine (refKey_any _ _ hy).mono ?_; rintro e w' ⟨rfl, rfl⟩
  go_wp2_with fail
  go_at_call 8; refine (Less_any _ _ _ hy hx).mono ?_; rintro e w' ⟨rfl, rfl⟩
  go_wp2_with fail
  go_at_call 7; refine (refKey_any _ _ hy).mono ?_; rintro e w' ⟨rfl, rfl⟩
  go_wp2_with fail
  go_at_call 7; refine (refKey_any _ _ hx).mono ?_; rintro e w' ⟨rfl, rfl⟩
  go_wp2_with fail
  go_at_call 10; refine (of_any bs _ _ HV.out (by have := HL.out; omega)).mono ?_; rintro e w1 ⟨v1, rfl, hr1, hb1⟩
  have HR1 := Lib.hid hr1
  have HB1 := Lib.hid hb1
  have HV1 := Lib.hid (HV.out.on hb1)
  clear hr1 hb1
  go_wp2_with fail
  go_at_call 9; refine (Most_any bs _ _ HR1.out HW.out).mono ?_; rintro e w' ⟨rfl, rfl⟩
  go_wp2_with fail
  go_at_call 11; refine (refMost_any bs _ _ HV1.out HW.out).mono ?_; rintro e w2 ⟨rfl, hb2⟩
  have HB2 := Lib.hid hb2
  clear hb2
  go_wp2_with fail
  go_at_call 12; refine (lives_any _).mono ?_; rintro e w' ⟨rfl, rfl⟩
  go_wp2_with fail
  go_ret
  exact ⟨rfl, (HB1.out.trans (HB2.out.mono HB1.out.size)).drew⟩

theorem orders_walk (x y : Nat) (a : Option Addr) (n cap : Nat) (bs : List Nat) (w : World) (hx : W64 x) (hy : W64 y) (hv : Rd U w (.slice a n cap) bs) (hvw : AllW bs) (hnil : a = none → n = 0 ∧ cap = 0) :
    Calls Try.prog 3 #[.int .u64 x, .int .u64 y, .slice a n cap] w fun e w' => e = .returned (.bool true) ∧ Below w.heap.size w w' := by
  by_cases h : 300 < n
  · cases a with
    | none => obtain ⟨rfl, -⟩ := hnil rfl; omega
    | some ad => exact orders_big x y ad n cap bs w hx hy hv hvw h
  · exact orders_small x y a n cap bs w hx hy hv hvw (by omega)
theorem nat_of {a : Int} (h : (Lit.int .u64 a).wf = true) : ∃ x : Nat, a = x ∧ W64 x := by
  simp only [Lit.wf, Bool.and_eq_true, decide_eq_true_eq] at h
  have h1 : IntKind.u64.min = 0 := by decide
  have h2 : IntKind.u64.max = 18446744073709551615 := by decide
  exact ⟨a.toNat, by omega, by unfold W64; omega⟩
theorem orders_int (a b : Int) (ha : (Lit.int .u64 a).wf = true) (hb : (Lit.int .u64 b).wf = true) (p : Option Addr) (n cap : Nat) (bs : List Nat) (w : World) (hv : Rd U w (.slice p n cap) bs) (hvw : AllW bs) (hnil : p = none → n = 0 ∧ cap = 0) :
    Calls Try.prog 3 #[.int .u64 a, .int .u64 b, .slice p n cap] w fun e w' => e = .returned (.bool true) ∧ Below w.heap.size w w' := by
  obtain ⟨x, rfl, hx⟩ := nat_of ha
  obtain ⟨y, rfl, hy⟩ := nat_of hb
  exact orders_walk x y p n cap bs w hx hy hv hvw hnil
end Go.Proofs.Ytchokhfcemeagaa.score
