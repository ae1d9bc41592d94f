/- The walks of heap's New, and of what only reads; a nil one. -/
import Derived.Test.YtpcpjpcejcgodaaK5
namespace Go.Proofs.Ytpcpjpcejcgodaa.heap
open Go.RowKit
open Go.Proofs.Ytpcpjpcejcgodaa.fns Go.Proofs.Ytpcpjpcejcgodaa.hpf Go.Proofs.Ytpcpjpcejcgodaa.ints

theorem retF {a b : Nat} (h : a = b) : Ending.returned (.float .f64 a) = .returned (.float .f64 b) := by rw [h]
theorem known_any (A B g s p n x : Nat) (tv : Value) (S P T : List Nat) (w : World) (h : Hp A B w g s p tv n S P T) (hx : x < n) :
    Calls Try.prog 17 #[.pointer (some ⟨g, 0, none⟩), .int .i64 x] w fun e w' => e = .returned (.bool true) ∧ w = w' := by
  obtain ⟨c0, -, -, -⟩ := h.cG
  have t1 : decide (x < n) = true := by simp; omega
  clear h
  go_enter Try.func17, Try.ntmps17
  go_wp2_with fail
  go_ret
  exact ⟨rfl, rfl⟩
theorem known_nil (x : Int) (w : World) : Calls Try.prog 17 #[.pointer none, .int .i64 x] w fun e w' => e = .returned (.bool false) ∧ w = w' := by
  go_enter Try.func17, Try.ntmps17
  go_wp2_with fail
  go_ret
  exact ⟨rfl, rfl⟩
theorem Has_of (A B g s p n x : Nat) (tv : Value) (S P T : List Nat) (w : World) {r : Bool} (hr : decide (0 < P.getD x 0) = r) (h : Hp A B w g s p tv n S P T) (hx : x < n) :
    Calls Try.prog 14 #[.pointer (some ⟨g, 0, none⟩), .int .i64 x] w fun e w' => e = .returned (.bool r) ∧ w = w' := by
  obtain ⟨-, c1, -, -⟩ := h.cG
  obtain ⟨x1, -⟩ := h.cP hx
  have HH := Lib.hid h
  have HR := Lib.hid hr
  obtain ⟨v, hv⟩ : ∃ v, v = P.getD x 0 := ⟨_, rfl⟩
  rw [← hv] at x1 HR
  have d1 : (x : Int) < (n : Int) := by omega
  have d2 : 0 ≤ (x : Int) := by omega
  clear h hr hv
  go_enter Try.func14, Try.ntmps14
  go_wp2_with fail
  go_at_call 17; refine (known_any A B g s p n x _ S P T _ HH.out hx).mono ?_; rintro e w' ⟨rfl, rfl⟩
  go_wp2_with fail
  go_ret
  exact ⟨score.retB (by rw [← HR.out]), rfl⟩
theorem Has_nil (x : Int) (w : World) : Calls Try.prog 14 #[.pointer none, .int .i64 x] w fun e w' => e = .returned (.bool false) ∧ w = w' := by
  go_enter Try.func14, Try.ntmps14
  go_wp2_with fail
  go_at_call 17; refine (known_nil x _).mono ?_; rintro e w' ⟨rfl, rfl⟩
  go_wp2_with fail
  go_ret
  exact ⟨rfl, rfl⟩
theorem Hp.tv {A B : Nat} {w : World} {g s p n : Nat} {tv : Value} {S P T : List Nat} (h : Hp A B w g s p tv n S P T) : ∃ a c, tv = .slice a T.length c := by
  rcases h.tr.2 with ⟨e, e2⟩ | ⟨t, c, cur, e, -⟩
  · exact ⟨none, 0, by rw [e, e2]⟩
  · exact ⟨_, _, e⟩
theorem Len_any (A B g s p n : Nat) (tv : Value) (S P T : List Nat) (w : World) (h : Hp A B w g s p tv n S P T) :
    Calls Try.prog 12 #[.pointer (some ⟨g, 0, none⟩)] w fun e w' => e = .returned (.int .i64 T.length) ∧ w = w' := by
  obtain ⟨-, -, c2, -⟩ := h.cG
  obtain ⟨a, c, rfl⟩ := h.tv
  clear h
  go_enter Try.func12, Try.ntmps12
  go_wp2_with fail
  go_ret
  exact ⟨rfl, rfl⟩
theorem Len_nil (w : World) : Calls Try.prog 12 #[.pointer none] w fun e w' => e = .returned (.int .i64 0) ∧ w = w' := by
  go_enter Try.func12, Try.ntmps12
  go_wp2_with fail
  go_ret
  exact ⟨rfl, rfl⟩
theorem Score_any (A B g s p n x : Nat) (tv : Value) (S P T : List Nat) (w : World) (h : Hp A B w g s p tv n S P T) (hx : x < n) :
    Calls Try.prog 11 #[.pointer (some ⟨g, 0, none⟩), .int .i64 x] w fun e w' => e = .returned (.float .f64 (S.getD x 0)) ∧ w = w' := by
  obtain ⟨c0, -, -, -⟩ := h.cG
  obtain ⟨x1, -⟩ := h.cS hx
  have HH := Lib.hid h
  obtain ⟨v, hv⟩ : ∃ v, v = S.getD x 0 := ⟨_, rfl⟩
  rw [← hv] at x1 ⊢
  have d1 : (x : Int) < (n : Int) := by omega
  have d2 : 0 ≤ (x : Int) := by omega
  clear h hv
  go_enter Try.func11, Try.ntmps11
  go_wp2_with fail
  go_at_call 17; refine (known_any A B g s p n x _ S P T _ HH.out hx).mono ?_; rintro e w' ⟨rfl, rfl⟩
  go_wp2_with fail
  go_ret
  exact ⟨rfl, rfl⟩
theorem Score_nil (x : Int) (w : World) : Calls Try.prog 11 #[.pointer none, .int .i64 x] w fun e w' => e = .returned (.float .f64 0) ∧ w = w' := by
  go_enter Try.func11, Try.ntmps11
  go_wp2_with fail
  go_at_call 17; refine (known_nil x _).mono ?_; rintro e w' ⟨rfl, rfl⟩
  go_wp2_with fail
  go_ret
  exact ⟨rfl, rfl⟩
theorem Push_nil (x : Int) (w : World) : Calls Try.prog 6 #[.pointer none, .int .i64 x] w fun e w' => e = .returned (.int .i64 1) ∧ w = w' := by
  go_enter Try.func6, Try.ntmps6
  go_wp2_with fail
  go_at_call 17; refine (known_nil x _).mono ?_; rintro e w' ⟨rfl, rfl⟩
  go_wp2_with fail
  go_ret
  exact ⟨rfl, rfl⟩
theorem Set_nil (x : Int) (b : Nat) (w : World) : Calls Try.prog 7 #[.pointer none, .int .i64 x, .float .f64 b] w fun e w' => e = .returned (.int .i64 1) ∧ w = w' := by
  go_enter Try.func7, Try.ntmps7
  go_wp2_with fail
  go_at_call 17; refine (known_nil x _).mono ?_; rintro e w' ⟨rfl, rfl⟩
  go_wp2_with fail
  go_ret
  exact ⟨rfl, rfl⟩
theorem Pop_nil (w : World) : Calls Try.prog 9 #[.pointer none] w fun e w' => e = .returned (.tuple #[.int .i64 0, .bool false]) ∧ w = w' := by
  go_enter Try.func9, Try.ntmps9
  go_wp2_with fail
  go_at_call 12; refine (Len_nil _).mono ?_; rintro e w' ⟨rfl, rfl⟩
  go_wp2_with fail
  go_ret2
  exact ⟨rfl, rfl⟩
theorem List_nil (w : World) : Calls Try.prog 15 #[.pointer none] w fun e w' => e = .returned (.slice none 0 0) ∧ w = w' := by
  go_enter Try.func15, Try.ntmps15
  go_wp2_with fail
  go_ret
  exact ⟨rfl, rfl⟩
theorem Clone_nil (w : World) : Calls Try.prog 16 #[.pointer none] w fun e w' => e = .returned (.pointer none) ∧ w = w' := by
  go_enter Try.func16, Try.ntmps16
  go_wp2_with fail
  go_ret
  exact ⟨rfl, rfl⟩
theorem Pop_none (A B g s p n : Nat) (tv : Value) (S P : List Nat) (w : World) (h : Hp A B w g s p tv n S P []) :
    Calls Try.prog 9 #[.pointer (some ⟨g, 0, none⟩)] w fun e w' => e = .returned (.tuple #[.int .i64 0, .bool false]) ∧ w = w' := by
  have HH := Lib.hid h
  clear h
  go_enter Try.func9, Try.ntmps9
  go_wp2_with fail
  go_at_call 12; refine (Len_any A B g s p n _ S P [] _ HH.out).mono ?_; rintro e w' ⟨rfl, rfl⟩
  go_wp2_with fail
  go_ret2
  exact ⟨rfl, rfl⟩

theorem infoF : (Try.prog.info? 28).map (fun i => (i.zero, i.size, i.bytes)) = some (some (.float .f64 0), 1, 8) := by kernel_rfl
theorem mk_floats (n : Nat) (w : World) (hn : n ≤ 1048576) : (Instr.makeSlice 43 (.int .i64 (n : Int)) (.int .i64 (n : Int))).run Try.prog w =
    .ok (.slice (some ⟨w.heap.size, 0, none⟩) n n) (w.alloc (.cells (madeCells #[.float .f64 0] n) 28)) := by
  obtain ⟨i0, hi, hz0, hz1, hz2⟩ := info_parts infoF
  have h := run_make (P := Try.prog) w 43 28 i0 _ Try.underlying43 hi hz0 .i64 .i64 n n (by omega) (Int.le_refl _) (by rw [hz2]; omega) (by omega)
  rw [hz1, Nat.mul_one, Int.toNat_natCast] at h
  exact h
theorem mk_ints (n : Nat) (w : World) (hn : n ≤ 1048576) : (Instr.makeSlice 39 (.int .i64 (n : Int)) (.int .i64 (n : Int))).run Try.prog w =
    .ok (.slice (some ⟨w.heap.size, 0, none⟩) n n) (w.alloc (.cells (madeCells #[.int .i64 0] n) 3)) := by
  obtain ⟨i0, hi, hz0, hz1, hz2⟩ := info_parts infoInt
  have h := run_make (P := Try.prog) w 39 3 i0 _ Try.underlying39 hi hz0 .i64 .i64 n n (by omega) (Int.le_refl _) (by rw [hz2]; omega) (by omega)
  rw [hz1, Nat.mul_one, Int.toNat_natCast] at h
  exact h
theorem made_list (z : Value) (n : Nat) : (madeCells #[z] n).toList = List.replicate n z := toList_madeCells_one z n
theorem rows_of (w1 : World) (n k : Nat) (A : Nat) (z : Value) (t : TypeId) (hn : n ≤ 1048576) (hA : A ≤ k) (h : w1.heap[k]? = some (.cells (madeCells #[z] n) t (0, 0))) :
    w1.ownsRow A t 1 (.slice (some ⟨k, 0, none⟩) n n) n (List.replicate n z) :=
  ⟨by simp, .inr ⟨k, n, _, rfl, hA, h, Nat.le_refl _, by unfold maxLen; omega, by simp [madeCells], by rw [made_list, List.take_of_length_le (by simp)]⟩⟩
def Newly (n : Nat) (w : World) (e : Ending) (w' : World) : Prop :=
  ∃ g s p B, e = .returned (.pointer (some ⟨g, 0, none⟩)) ∧ Hp w.heap.size B w' g s p (.slice none 0 0) n (List.replicate n 0) (List.replicate n 0) [] ∧ Below w.heap.size w w'
theorem heap3 (w : World) (a b c : Obj) : (((w.alloc a).alloc b).alloc c).heap[w.heap.size]? = some a ∧ (((w.alloc a).alloc b).alloc c).heap[w.heap.size + 1]? = some b ∧
    (((w.alloc a).alloc b).alloc c).heap[w.heap.size + 1 + 1]? = some c ∧ (((w.alloc a).alloc b).alloc c).heap.size = w.heap.size + 3 := by
  have e : (((w.alloc a).alloc b).alloc c).heap = ((w.heap.push a).push b).push c := rfl
  rw [e]
  refine ⟨?_, ?_, ?_, by simp⟩
  · rw [Array.getElem?_push, if_neg (by simp only [Array.size_push]; omega), Array.getElem?_push, if_neg (by simp only [Array.size_push]; omega), Array.getElem?_push, if_pos rfl]
  · rw [Array.getElem?_push, if_neg (by simp only [Array.size_push]; omega), Array.getElem?_push, if_pos (by simp only [Array.size_push])]
  · rw [Array.getElem?_push, if_pos (by simp only [Array.size_push])]
theorem new_a (n : Nat) (w : World) (hn : n ≤ 1048576) (t : TypeId) : Newly n w (.returned (.pointer (some ⟨w.heap.size + 1 + 1, 0, none⟩)))
    (((w.alloc (.cells (madeCells #[.float .f64 0] n) 28)).alloc (.cells (madeCells #[.int .i64 0] n) 3)).alloc (.cells #[.slice (some ⟨w.heap.size, 0, none⟩) n n, .slice (some ⟨w.heap.size + 1, 0, none⟩) n n, .slice none 0 0] t)) := by
  obtain ⟨h0, h1, h2, h3⟩ := heap3 w (.cells (madeCells #[.float .f64 0] n) 28) (.cells (madeCells #[.int .i64 0] n) 3) (.cells #[.slice (some ⟨w.heap.size, 0, none⟩) n n, .slice (some ⟨w.heap.size + 1, 0, none⟩) n n, .slice none 0 0] t)
  refine ⟨_, w.heap.size, w.heap.size + 1, w.heap.size + 3, rfl, ⟨⟨t, h2⟩, ?_, ?_, World.ownsRow_nil _ _ _ _, by omega⟩, (((Below.refl _ _).alloc (Nat.le_refl _) _).alloc (by simp) _).alloc (by simp; omega) _⟩
  · have := rows_of _ n w.heap.size w.heap.size (.float .f64 0) 28 hn (by omega) h0
    simpa [fcells] using this
  · have := rows_of _ n (w.heap.size + 1) w.heap.size (.int .i64 0) 3 hn (by omega) h1
    simpa [ncells] using this
theorem new_b (n : Nat) (w : World) (hn : n ≤ 1048576) (t : TypeId) : Newly n w (.returned (.pointer (some ⟨w.heap.size + 1 + 1, 0, none⟩)))
    (((w.alloc (.cells (madeCells #[.int .i64 0] n) 3)).alloc (.cells (madeCells #[.float .f64 0] n) 28)).alloc (.cells #[.slice (some ⟨w.heap.size + 1, 0, none⟩) n n, .slice (some ⟨w.heap.size, 0, none⟩) n n, .slice none 0 0] t)) := by
  obtain ⟨h0, h1, h2, h3⟩ := heap3 w (.cells (madeCells #[.int .i64 0] n) 3) (.cells (madeCells #[.float .f64 0] n) 28) (.cells #[.slice (some ⟨w.heap.size + 1, 0, none⟩) n n, .slice (some ⟨w.heap.size, 0, none⟩) n n, .slice none 0 0] t)
  refine ⟨_, w.heap.size + 1, w.heap.size, w.heap.size + 3, rfl, ⟨⟨t, h2⟩, ?_, ?_, World.ownsRow_nil _ _ _ _, by omega⟩, (((Below.refl _ _).alloc (Nat.le_refl _) _).alloc (by simp) _).alloc (by simp; omega) _⟩
  · have := rows_of _ n (w.heap.size + 1) w.heap.size (.float .f64 0) 28 hn (by omega) h1
    simpa [fcells] using this
  · have := rows_of _ n w.heap.size w.heap.size (.int .i64 0) 3 hn (by omega) h0
    simpa [ncells] using this
theorem Newly.drew {n : Nat} {w w' : World} {e : Ending} (h : Newly n w e w') (q : Nat) : Newly n w e (w'.drewN q) := by
  obtain ⟨g, s, p, B, h1, h2, h3⟩ := h
  exact ⟨g, s, p, B, h1, h2.drewN q, below_drewN h3 q⟩
theorem New_any (n : Nat) (w : World) (hn : n ≤ 1048576) : Calls Try.prog 5 #[.int .i64 n] w (Newly n w) := by
  have h1 := fun w => mk_floats n w hn
  have h2 := fun w => mk_ints n w hn
  have t1 : decide (1048576 < n) = false := by simp; omega
  have HA := Lib.hid (new_a n w hn 45)
  have HB := Lib.hid (new_b n w hn 45)
  go_enter Try.func5, Try.ntmps5
  go_wp2_with fail
  go_region
  all_goals
    go_wp2_with fail
    go_ret
    first | exact HA.out.drew 1 | exact HB.out.drew 1
end Go.Proofs.Ytpcpjpcejcgodaa.heap
