/- The walks of rand's New and Next, and of the document's. -/
import Derived.Test.YtpagcphebokkmaaProg
import Derived.Test.YtpagcphebokkmaaFnG
import Derived.WalkKit
import Derived.Handy
import Derived.Outline
import Derived.Below
import Derived.Lib.SmallJoins
import Derived.Deep.QuietTactic
import Derived.BigQuiet
namespace Go.Proofs.Ytpagcphebokkmaa.rnd
open Go.RowKit
open Go.Proofs.Ytpagcphebokkmaa.fns

theorem retI {k : IntKind} {a b : Int} (h : a = b) : Ending.returned (.int k a) = .returned (.int k b) := by rw [h]
theorem retB {a b : Bool} (h : a = b) : Ending.returned (.bool a) = .returned (.bool b) := by rw [h]

/-- a block of one cell, known whole -/
def One (w : World) (g : Nat) (x : Value) : Prop := ∃ t, w.heap[g]? = some (.cells #[x] t (0, 0))
theorem One.lt {w : World} {g : Nat} {x : Value} (h : One w g x) : g < w.heap.size := by
  obtain ⟨t, h⟩ := h; exact (Array.getElem?_eq_some_iff.1 h).1
theorem One.cells {w : World} {g : Nat} {x : Value} (h : One w g x) : w.cell? ⟨g, 0, none⟩ = some x ∧ w.frozen? ⟨g, 0, none⟩ = false := by
  obtain ⟨t, h⟩ := h
  exact ⟨Joins.cell_of_block h 0, Joins.unfrozen_of_block h 0⟩
theorem One.on {w w' : World} {B g : Nat} {x : Value} (h : One w g x) (hb : Below B w w') (hB : g < B) : One w' g x := by
  obtain ⟨t, h⟩ := h
  exact ⟨t, (hb.block g hB).trans h⟩
theorem one_new (w : World) (x : Value) (t : TypeId) : One (w.alloc (.cells #[x] t)) w.heap.size x :=
  ⟨t, by show (w.heap.push _)[w.heap.size]? = _; rw [Array.getElem?_push, if_pos rfl]⟩
theorem one_at (w : World) (g : Nat) (x : Value) (t : TypeId) (hg : g = w.heap.size) : One (w.alloc (.cells #[x] t)) g x := hg ▸ one_new w x t
theorem One.set {w : World} {g : Nat} {x x' : Value} (h : One w g x) : One (w.setCell ⟨g, 0, none⟩ x') g x' := by
  obtain ⟨t, h⟩ := h
  exact ⟨t, Joins.block_setCell (i := 0) h x'⟩
theorem One.other {w : World} {g h i : Nat} {x : Value} (ht : One w g x) (hne : g ≠ h) (v : Value) : One (w.setCell ⟨h, i, none⟩ v) g x := by
  obtain ⟨t, ht⟩ := ht
  exact ⟨t, (Below.heap_setCell w ⟨h, i, none⟩ v g hne).trans ht⟩
theorem One.drew {w : World} {g : Nat} {x : Value} (h : One w g x) : One w.drew g x := h
theorem One.alloc {w : World} {g : Nat} {x : Value} (h : One w g x) (o : Obj) : One (w.alloc o) g x :=
  h.on ((Below.refl w.heap.size w).alloc (Nat.le_refl _) o) h.lt

/-- w' is as w was, but for block g, and what is new -/
structure But (g : Nat) (w w' : World) : Prop where
  os : w'.os = w.os
  tape : w'.tape = w.tape
  output : w'.output = w.output
  size : w.heap.size ≤ w'.heap.size
  block : ∀ k, k < w.heap.size → k ≠ g → w'.heap[k]? = w.heap[k]?
theorem But.below {g B : Nat} {w w' : World} (h : But g w w') (hB : B ≤ g) (hs : B ≤ w.heap.size) : Below B w w' :=
  ⟨h.os, h.tape, h.output, h.size, fun k hk => h.block k (by omega) (by omega)⟩
theorem But.one {g k : Nat} {w w' : World} {x : Value} (h : But g w w') (hk : One w k x) (hne : k ≠ g) : One w' k x := by
  have hl := hk.lt
  obtain ⟨t, hk⟩ := hk
  exact ⟨t, (h.block k hl hne).trans hk⟩
theorem But.trans {g : Nat} {a b c : World} (h : But g a b) (k : But g b c) : But g a c :=
  ⟨k.os.trans h.os, k.tape.trans h.tape, k.output.trans h.output, Nat.le_trans h.size k.size, fun i hi hne => (k.block i (Nat.lt_of_lt_of_le hi h.size) hne).trans (h.block i hi hne)⟩
theorem But.refl (g : Nat) (w : World) : But g w w := ⟨rfl, rfl, rfl, Nat.le_refl _, fun _ _ _ => rfl⟩
theorem but_of_below {g : Nat} {w w' : World} (h : Below w.heap.size w w') : But g w w' := ⟨h.os, h.tape, h.output, h.size, fun k hk _ => h.block k hk⟩
theorem but_set {g : Nat} (w : World) (v : Value) : But g w (w.setCell ⟨g, 0, none⟩ v) := by
  have h := (Below.refl g w).setCell (p := ⟨g, 0, none⟩) (Nat.le_refl _) v
  exact ⟨h.os, h.tape, h.output, h.size, fun k _ hne => Below.heap_setCell w ⟨g, 0, none⟩ v k hne⟩

theorem apart_any (a b : Int) (w : World) (ha : In64 a) (hb : In64 b) :
    Calls Try.prog 17 #[.int .u64 a, .int .u64 b] w fun e w' => e = .returned (.int .u64 (xr a b)) ∧ w = w' := by
  have HR := Lib.hid (apart_xr ha hb)
  clear ha hb
  go_enter Try.func17, Try.ntmps17
  go_wp2
  go_ret
  exact ⟨retI HR.out, rfl⟩
theorem apart_div (a : Int) (c : Nat) (w : World) (ha : In64 a) :
    Calls Try.prog 17 #[.int .u64 a, .int .u64 (IntKind.u64.wrap (a.tdiv (c : Int)))] w fun e w' => e = .returned (.int .u64 (xr a (a / (c : Int)))) ∧ w = w' := by
  rw [quo_in ha]
  exact apart_any _ _ w ha (in_div c ha)
theorem Next_any (g : Nat) (s : Int) (w : World) (h : One w g (.int .u64 s)) :
    Calls Try.prog 9 #[.pointer (some ⟨g, 0, none⟩)] w fun e w' => e = .returned (.int .u64 (out (nxt s))) ∧ w' = w.setCell ⟨g, 0, none⟩ (.int .u64 (nxt s)) := by
  obtain ⟨c0, f0⟩ := h.cells
  go_enter Try.func9, Try.ntmps9
  go_wp2
  go_ret
  exact ⟨rfl, rfl⟩
theorem Next_nil (w : World) :
    Calls Try.prog 9 #[.pointer none] w fun e w' => e = .returned (.int .u64 0) ∧ w = w' := by
  go_enter Try.func9, Try.ntmps9
  go_wp2
  go_ret
  exact ⟨rfl, rfl⟩
theorem New_any (s : Int) (w : World) :
    Calls Try.prog 6 #[.int .u64 s] w fun e w' => e = .returned (.pointer (some ⟨w.heap.size, 0, none⟩)) ∧ w' = w.alloc (.cells #[.int .u64 s] 48) := by
  go_enter Try.func6, Try.ntmps6
  go_wp2
  go_ret
  exact ⟨rfl, rfl⟩
theorem refNext_any (s : Int) (w : World) :
    Calls Try.prog 8 #[.agg #[.int .u64 s]] w fun e w' => e = .returned (.tuple #[.int .u64 (out (nxt s)), .agg #[.int .u64 (nxt s)]]) ∧ Below w.heap.size w w' := by
  go_enter Try.func8, Try.ntmps8
  go_wp2_with fail
  go_at_call 17; refine (apart_div _ 1073741824 _ (in_wrap _)).mono ?_; rintro e w' ⟨rfl, rfl⟩
  go_wp2_with fail
  go_at_call 17; refine (apart_div _ 134217728 _ (in_wrap _)).mono ?_; rintro e w' ⟨rfl, rfl⟩
  go_wp2_with fail
  go_at_call 17; refine (apart_div _ 2147483648 _ (in_wrap _)).mono ?_; rintro e w' ⟨rfl, rfl⟩
  go_wp2_with fail
  refine bodyPost_ret (v := .tuple #[.int .u64 (out (nxt s)), .agg #[.int .u64 (nxt s)]]) (by simp [results, Try.results8, go_sem]; exact ⟨rfl, rfl⟩) rfl ⟨rfl, ?_⟩
  repeat (first | exact Below.refl _ _ | refine Below.setCell ?_ (by simp) _ | refine Below.alloc ?_ (by simp) _)
theorem lives_any (w : World) :
    Calls Try.prog 7 #[] w fun e w' => e = .returned (.bool true) ∧ Below w.heap.size w w' := by
  have HO := Lib.hid out_zero
  have HB : Hid (Below w.heap.size w (w.alloc (.cells #[.int .u64 (nxt 0)] 48))) := Lib.hid ((Below.refl _ w).alloc (Nat.le_refl _) _)
  go_enter Try.func7, Try.ntmps7
  go_wp2_with fail
  go_at_call 6; refine (New_any _ _).mono ?_; rintro e w' ⟨rfl, rfl⟩
  go_wp2_with fail
  go_at_call 9; refine (Next_any _ _ _ (one_new w _ _)).mono ?_; rintro e w' ⟨rfl, rfl⟩
  rw [HO.out]
  go_wp2_with fail
  go_ret
  exact ⟨rfl, HB.out⟩
theorem Bit_any (g : Nat) (s : Int) (w : World) (h : One w g (.int .u64 s)) :
    Calls Try.prog 12 #[.pointer (some ⟨g, 0, none⟩)] w fun e w' => e = .returned (.bool (oddB (out (nxt s)))) ∧ w' = w.setCell ⟨g, 0, none⟩ (.int .u64 (nxt s)) := by
  go_enter Try.func12, Try.ntmps12
  go_wp2_with fail
  go_at_call 9; refine (Next_any _ _ _ h).mono ?_; rintro e w' ⟨rfl, rfl⟩
  go_wp2_with fail
  go_ret
  exact ⟨rfl, rfl⟩
theorem Bit_nil (w : World) :
    Calls Try.prog 12 #[.pointer none] w fun e w' => e = .returned (.bool false) ∧ w = w' := by
  go_enter Try.func12, Try.ntmps12
  go_wp2_with fail
  go_at_call 9; refine (Next_nil _).mono ?_; rintro e w' ⟨rfl, rfl⟩
  go_wp2_with fail
  go_ret
  exact ⟨rfl, rfl⟩
theorem Clone_any (g : Nat) (s : Int) (w : World) (h : One w g (.int .u64 s)) :
    Calls Try.prog 16 #[.pointer (some ⟨g, 0, none⟩)] w fun e w' => e = .returned (.pointer (some ⟨w.heap.size, 0, none⟩)) ∧ w' = w.alloc (.cells #[.int .u64 s] 48) := by
  obtain ⟨c0, f0⟩ := h.cells
  go_enter Try.func16, Try.ntmps16
  go_wp2_with fail
  go_at_call 6; refine (New_any _ _).mono ?_; rintro e w' ⟨rfl, rfl⟩
  go_wp2_with fail
  go_ret
  exact ⟨rfl, rfl⟩
theorem Clone_nil (w : World) :
    Calls Try.prog 16 #[.pointer none] w fun e w' => e = .returned (.pointer none) ∧ w = w' := by
  go_enter Try.func16, Try.ntmps16
  go_wp2_with fail
  go_ret
  exact ⟨rfl, rfl⟩
theorem Below_no (v : Value) (n : Int) (w : World) (hn : n < 1) :
    Calls Try.prog 11 #[v, .int .i64 n] w fun e w' => e = .returned (.int .i64 0) ∧ w = w' := by
  go_enter Try.func11, Try.ntmps11
  go_wp2_with fail
  go_ret
  exact ⟨rfl, rfl⟩
theorem Below_any (g : Nat) (s n : Int) (w : World) (h : One w g (.int .u64 s)) (h1 : 1 ≤ n) (h2 : n ≤ 9223372036854775807) :
    Calls Try.prog 11 #[.pointer (some ⟨g, 0, none⟩), .int .i64 n] w fun e w' => e = .returned (.int .i64 (blw (out (nxt s)) n)) ∧ w' = w.setCell ⟨g, 0, none⟩ (.int .u64 (nxt s)) := by
  have HR := Lib.hid (rem_in (in_out (nxt s)) h1 h2).1
  have c1 : decide (n < 1) = false := by simp; omega
  go_enter Try.func11, Try.ntmps11
  go_wp2_with fail
  go_at_call 9; refine (Next_any _ _ _ h).mono ?_; rintro e w' ⟨rfl, rfl⟩
  go_wp2_with fail
  go_ret
  exact ⟨retI HR.out, rfl⟩
theorem Below_nil (n : Int) (w : World) (h1 : 1 ≤ n) (h2 : n ≤ 9223372036854775807) :
    Calls Try.prog 11 #[.pointer none, .int .i64 n] w fun e w' => e = .returned (.int .i64 0) ∧ w = w' := by
  have c1 : decide (n < 1) = false := by simp; omega
  go_enter Try.func11, Try.ntmps11
  go_wp2_with fail
  go_at_call 9; refine (Next_nil _).mono ?_; rintro e w' ⟨rfl, rfl⟩
  go_wp2_with fail
  go_ret
  exact ⟨rfl, rfl⟩
theorem Perm_none (a : Addr) (n : Int) (w : World) (hn : n < 0 ∨ 100000 < n) :
    Calls Try.prog 15 #[.pointer (some a), .int .i64 n] w fun e w' => e = .returned (.slice none 0 0) ∧ w = w' := by
  rcases hn with hn | hn
  · go_enter Try.func15, Try.ntmps15
    go_wp2_with fail
    go_ret
    exact ⟨rfl, rfl⟩
  · have c1 : decide (n < 0) = false := by simp; omega
    go_enter Try.func15, Try.ntmps15
    go_wp2_with fail
    go_ret
    exact ⟨rfl, rfl⟩
theorem Perm_nil (n : Int) (w : World) :
    Calls Try.prog 15 #[.pointer none, .int .i64 n] w fun e w' => e = .returned (.slice none 0 0) ∧ w = w' := by
  go_enter Try.func15, Try.ntmps15
  go_wp2_with fail
  go_ret
  exact ⟨rfl, rfl⟩
theorem none_walk (n : Int) (w : World) (hb : -9223372036854775808 ≤ n ∧ n ≤ 9223372036854775807) :
    Calls Try.prog 5 #[.int .i64 n] w fun e w' => e = .returned (.bool true) ∧ Below w.heap.size w w' := by
  by_cases h : n < 1
  · go_enter Try.func5, Try.ntmps5
    go_wp2_with fail
    go_at_call 9; refine (Next_nil _).mono ?_; rintro e w' ⟨rfl, rfl⟩
    go_wp2_with fail
    go_at_call 11; refine (Below_no _ _ _ h).mono ?_; rintro e w' ⟨rfl, rfl⟩
    go_wp2_with fail
    go_at_call 12; refine (Bit_nil _).mono ?_; rintro e w' ⟨rfl, rfl⟩
    go_wp2_with fail
    go_at_call 15; refine (Perm_nil _ _).mono ?_; rintro e w' ⟨rfl, rfl⟩
    go_wp2_with fail
    go_at_call 16; refine (Clone_nil _).mono ?_; rintro e w' ⟨rfl, rfl⟩
    go_wp2_with fail
    go_at_call 7; refine (lives_any _).mono ?_; rintro e w' ⟨rfl, hb1⟩
    go_wp2_with fail
    go_ret
    exact ⟨rfl, hb1⟩
  · have h1 : 1 ≤ n := by omega
    have h2 : n ≤ 9223372036854775807 := by omega
    go_enter Try.func5, Try.ntmps5
    go_wp2_with fail
    go_at_call 9; refine (Next_nil _).mono ?_; rintro e w' ⟨rfl, rfl⟩
    go_wp2_with fail
    go_at_call 11; refine (Below_nil _ _ h1 h2).mono ?_; rintro e w' ⟨rfl, rfl⟩
    go_wp2_with fail
    go_at_call 12; refine (Bit_nil _).mono ?_; rintro e w' ⟨rfl, rfl⟩
    go_wp2_with fail
    go_at_call 15; refine (Perm_nil _ _).mono ?_; rintro e w' ⟨rfl, rfl⟩
    go_wp2_with fail
    go_at_call 16; refine (Clone_nil _).mono ?_; rintro e w' ⟨rfl, rfl⟩
    go_wp2_with fail
    go_at_call 7; refine (lives_any _).mono ?_; rintro e w' ⟨rfl, hb1⟩
    go_wp2_with fail
    go_ret
    exact ⟨rfl, hb1⟩
end Go.Proofs.Ytpagcphebokkmaa.rnd
