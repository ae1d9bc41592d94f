/- The walks of the project's cone: follow, renumbered. -/
import Derived.Test.YtbdmndhjbemenaaE5
namespace Go.Proofs.Ytbdmndhjbemenaa.aig
open Go.RowKit
open Go.Proofs.Ytbdmndhjbemenaa.mem Go.Proofs.Ytbdmndhjbemenaa.agf Go.Proofs.Ytbdmndhjbemenaa.fns
open Go.Proofs.Ytbdmndhjbemenaa.ints (Ints ints_of_owned)

theorem Neg_of {l : Int} {b : Bool} (h : litNeg l = b) (w : World) : Calls Try.prog 41 #[.int .i64 l] w fun e w' => e = .returned (.bool b) ∧ w = w' := by
  have := lits.Neg_any l w
  rw [h] at this; exact this
set_option maxHeartbeats 1600000 in
theorem follow_any (v : Value) (L : List Int) (x : Nat) (w : World) (hv : Ints w v L) (hx : x / 2 < L.length) (hl : L.length ≤ 1001) (h0 : 0 ≤ L.getD (x / 2) 0 ∧ L.getD (x / 2) 0 ≤ 4000000 ∧ L.getD (x / 2) 0 % 2 = 0) :
    Calls Try.prog 40 #[v, .int .i64 (x : Int)] w fun e w' => e = .returned (.int .i64 (litAt L x)) ∧ w' = w := by
  obtain ⟨a, cap, rfl, l1, l2⟩ := Ints.form hv
  unfold maxLen at l2
  obtain ⟨b, off, rfl, -, e1⟩ := Ints.at_ hv hx
  have HR : Hid (litAt L x = if x % 2 = 1 then L.getD (x / 2) 0 + 1 else L.getD (x / 2) 0) := Lib.hid (by
    unfold litAt nt
    by_cases o : x % 2 = 1
    · rw [if_pos o, if_pos o, if_neg (by omega), if_neg (by omega)]
    · rw [if_neg o, if_neg o])
  obtain ⟨n, hn⟩ : ∃ n, n = L.length := ⟨_, rfl⟩
  rw [← hn] at l1 hl hx ⊢
  obtain ⟨t, ht⟩ : ∃ t, t = L.getD (x / 2) 0 := ⟨_, rfl⟩
  rw [← ht] at e1 h0 HR
  obtain ⟨h1, h2, h3⟩ := h0
  have HG := Lib.hid (good_yes (l := (x : Int)) (by omega) (by omega))
  have HGT := Lib.hid (good_yes (l := t) h1 (by omega))
  have d1 : (x : Int) / 2 < (n : Int) := by omega
  have d2 : 0 ≤ (x : Int) / 2 := by omega
  have HT2 := Lib.hid h3
  clear hv hn ht h3
  by_cases o : x % 2 = 1
  · have HN := Lib.hid (neg_odd HG.out (by omega))
    have HV : Hid (litNot t = litAt L x) := Lib.hid (by rw [HR.out, if_pos o, not_even HGT.out HT2.out])
    clear o
    go_enter Try.func40, Try.ntmps40
    go_wp2_with fail
    go_at_call 30; refine (Var_at (l := (x : Int)) (by omega) (by omega) _).mono ?_; rintro e w' ⟨rfl, rfl⟩
    go_wp2_with fail
    go_at_call 41; refine (Neg_of HN.out _).mono ?_; rintro e w' ⟨rfl, rfl⟩
    go_wp2_with fail
    go_at_call 42; refine (lits.Not_any _ _).mono ?_; rintro e w' ⟨rfl, rfl⟩
    go_wp2_with fail
    go_ret
    exact ⟨retI HV.out, rfl⟩
  · have HN := Lib.hid (neg_even HG.out (by omega))
    have HV : Hid (t = litAt L x) := Lib.hid (by rw [HR.out, if_neg o])
    clear o
    go_enter Try.func40, Try.ntmps40
    go_wp2_with fail
    go_at_call 30; refine (Var_at (l := (x : Int)) (by omega) (by omega) _).mono ?_; rintro e w' ⟨rfl, rfl⟩
    go_wp2_with fail
    go_at_call 41; refine (Neg_of HN.out _).mono ?_; rintro e w' ⟨rfl, rfl⟩
    go_wp2_with fail
    go_ret
    exact ⟨retI HV.out, rfl⟩
/-- a node's box and the result's, side by side -/
theorem boxes_at (w : World) (p q : Int) (t : TypeId) : ((w.alloc (.cells #[.int .i64 p, .int .i64 q] t)).alloc (.cells #[.int .i64 0, .int .i64 0] t)).cell? ⟨w.heap.size, 0, none⟩ = some (.int .i64 p) ∧ ((w.alloc (.cells #[.int .i64 p, .int .i64 q] t)).alloc (.cells #[.int .i64 0, .int .i64 0] t)).cell? ⟨w.heap.size, 1, none⟩ = some (.int .i64 q) ∧
    ((w.alloc (.cells #[.int .i64 p, .int .i64 q] t)).alloc (.cells #[.int .i64 0, .int .i64 0] t)).cell? ⟨w.heap.size + 1, 0, none⟩ = some (.int .i64 0) ∧ ((w.alloc (.cells #[.int .i64 p, .int .i64 q] t)).alloc (.cells #[.int .i64 0, .int .i64 0] t)).cell? ⟨w.heap.size + 1, 1, none⟩ = some (.int .i64 0) ∧
    ((w.alloc (.cells #[.int .i64 p, .int .i64 q] t)).alloc (.cells #[.int .i64 0, .int .i64 0] t)).frozen? ⟨w.heap.size + 1, 0, none⟩ = false ∧ ((w.alloc (.cells #[.int .i64 p, .int .i64 q] t)).alloc (.cells #[.int .i64 0, .int .i64 0] t)).frozen? ⟨w.heap.size + 1, 1, none⟩ = false := by
  have hb : Below (w.heap.size + 1) (w.alloc (.cells #[.int .i64 p, .int .i64 q] t)) ((w.alloc (.cells #[.int .i64 p, .int .i64 q] t)).alloc (.cells #[.int .i64 0, .int .i64 0] t)) := (Below.refl _ _).alloc (by simp) _
  have hs : (w.alloc (.cells #[.int .i64 p, .int .i64 q] t)).heap.size = w.heap.size + 1 := by simp
  have h2 := box_at (w.alloc (.cells #[.int .i64 p, .int .i64 q] t)) 0 0 t
  rw [hs] at h2
  refine ⟨(hb.cell (p := ⟨w.heap.size, 0, none⟩) (by simp)).trans (box_at _ _ _ _).1, (hb.cell (p := ⟨w.heap.size, 1, none⟩) (by simp)).trans (box_at _ _ _ _).2, h2.1, h2.2, ?_, ?_⟩ <;> simp
set_option maxHeartbeats 3200000 in
theorem renum_in (p q : Int) (u : Value) (w : World) (h : p < 0) :
    Calls Try.prog 33 #[.agg #[.int .i64 p, .int .i64 q], u] w fun e w' => e = .returned (.agg #[.int .i64 (-1), .int .i64 0]) ∧ Below w.heap.size w w' := by
  have HP := Lib.hid (decide_eq_true h)
  have HX := Lib.hid (boxes_at w p q 37)
  have HB : Hid (Below w.heap.size w ((w.alloc (.cells #[.int .i64 p, .int .i64 q] 37)).alloc (.cells #[.int .i64 0, .int .i64 0] 37))) := Lib.hid (((Below.refl _ w).alloc (Nat.le_refl _) _).alloc (by simp) _)
  clear h
  go_enter Try.func33, Try.ntmps33
  go_upto_region 1 with fail
  obtain ⟨W1, hW1⟩ : ∃ W1, W1 = (w.alloc (.cells #[.int .i64 p, .int .i64 q] 37)).alloc (.cells #[.int .i64 0, .int .i64 0] 37) := ⟨_, rfl⟩
  obtain ⟨X, hX⟩ : ∃ X, X = w.heap.size := ⟨_, rfl⟩
  have HX1 : Hid (X + 1 < W1.heap.size) := Lib.hid (by rw [hW1, hX]; simp)
  have HXw : Hid (w.heap.size ≤ X) := Lib.hid (by omega)
  rw [← hW1, ← hX] at HX
  rw [← hW1] at HB
  rw [← hX, ← hW1]
  obtain ⟨x0, x1, z0, z1, f0, f1⟩ := HX.out
  clear hX hW1
  go_wp2_with fail
  go_at_call 28; refine (coneIn_of q HP.out _).mono ?_; rintro e w3 ⟨rfl, hb⟩
  have HB3 := Lib.hid (HB.out.trans (hb.mono HB.out.size))
  replace z0 := (hb.cell (p := ⟨X + 1, 0, none⟩) HX1.out).trans z0
  replace z1 := (hb.cell (p := ⟨X + 1, 1, none⟩) HX1.out).trans z1
  replace f0 := (hb.frozen (p := ⟨X + 1, 0, none⟩) HX1.out).trans f0
  replace f1 := (hb.frozen (p := ⟨X + 1, 1, none⟩) HX1.out).trans f1
  clear hb x0 x1
  go_wp2_with fail
  refine bodyPost_ret (v := .agg #[.int .i64 (-1), .int .i64 0]) (by simp [results, Try.results33, go_sem, z0, z1]) rfl ⟨rfl, ?_⟩
  have hXX : w.heap.size ≤ X + 1 := by have := HXw.out; omega
  exact (HB3.out.setCell (p := ⟨X + 1, 0, none⟩) hXX _).setCell (p := ⟨X + 1, 1, none⟩) hXX _
set_option maxRecDepth 100000 in
set_option maxHeartbeats 3200000 in
theorem renum_gate (x y : Nat) (u : Value) (L : List Int) (w : World) (hv : Ints w u L) (hl : L.length ≤ 1001) (hx : x / 2 < L.length) (hy : y / 2 < L.length) (h0 : 0 ≤ L.getD (x / 2) 0 ∧ L.getD (x / 2) 0 ≤ 4000000 ∧ L.getD (x / 2) 0 % 2 = 0) (h1 : 0 ≤ L.getD (y / 2) 0 ∧ L.getD (y / 2) 0 ≤ 4000000 ∧ L.getD (y / 2) 0 % 2 = 0) :
    Calls Try.prog 33 #[.agg #[.int .i64 (x : Int), .int .i64 (y : Int)], u] w fun e w' => e = .returned (.agg #[.int .i64 (litAt L x), .int .i64 (litAt L y)]) ∧ Below w.heap.size w w' := by
  have HP : Hid (decide ((x : Int) < 0) = false) := Lib.hid (decide_eq_false (by omega))
  have HX := Lib.hid (boxes_at w (x : Int) (y : Int) 37)
  have HB : Hid (Below w.heap.size w ((w.alloc (.cells #[.int .i64 (x : Int), .int .i64 (y : Int)] 37)).alloc (.cells #[.int .i64 0, .int .i64 0] 37))) := Lib.hid (((Below.refl _ w).alloc (Nat.le_refl _) _).alloc (by simp) _)
  have HFX : Hid (∀ w', Below w.heap.size w w' → Calls Try.prog 40 #[u, .int .i64 (x : Int)] w' fun e w'' => e = .returned (.int .i64 (litAt L x)) ∧ w'' = w') := Lib.hid (fun w' hb => follow_any u L x w' (Ints.on hv hb) hx hl h0)
  have HFY : Hid (∀ w', Below w.heap.size w w' → Calls Try.prog 40 #[u, .int .i64 (y : Int)] w' fun e w'' => e = .returned (.int .i64 (litAt L y)) ∧ w'' = w') := Lib.hid (fun w' hb => follow_any u L y w' (Ints.on hv hb) hy hl h1)
  obtain ⟨A1, hA1⟩ : ∃ A1, A1 = litAt L x := ⟨_, rfl⟩
  obtain ⟨B1, hB1⟩ : ∃ B1, B1 = litAt L y := ⟨_, rfl⟩
  rw [← hA1] at HFX ⊢
  rw [← hB1] at HFY ⊢
  clear hv hl hx hy h0 h1 hA1 hB1
  go_enter Try.func33, Try.ntmps33
  go_upto_region 1 with fail
  obtain ⟨W1, hW1⟩ : ∃ W1, W1 = (w.alloc (.cells #[.int .i64 (x : Int), .int .i64 (y : Int)] 37)).alloc (.cells #[.int .i64 0, .int .i64 0] 37) := ⟨_, rfl⟩
  obtain ⟨X, hX⟩ : ∃ X, X = w.heap.size := ⟨_, rfl⟩
  have HX1 : Hid (X + 1 < W1.heap.size) := Lib.hid (by rw [hW1, hX]; simp)
  have HXw : Hid (w.heap.size ≤ X) := Lib.hid (by omega)
  rw [← hW1, ← hX] at HX
  rw [← hW1] at HB
  rw [← hX, ← hW1]
  obtain ⟨x0, x1, z0, z1, f0, f1⟩ := HX.out
  clear hX hW1 HX
  go_wp2_with fail
  go_at_call 28; refine (coneIn_of (y : Int) HP.out _).mono ?_; rintro e w3 ⟨rfl, hb⟩
  have HB3 := Lib.hid (HB.out.trans (hb.mono HB.out.size))
  replace x0 := (hb.cell (p := ⟨X, 0, none⟩) (Nat.lt_of_succ_lt HX1.out)).trans x0
  replace x1 := (hb.cell (p := ⟨X, 1, none⟩) (Nat.lt_of_succ_lt HX1.out)).trans x1
  replace z0 := (hb.cell (p := ⟨X + 1, 0, none⟩) HX1.out).trans z0
  replace z1 := (hb.cell (p := ⟨X + 1, 1, none⟩) HX1.out).trans z1
  replace f0 := (hb.frozen (p := ⟨X + 1, 0, none⟩) HX1.out).trans f0
  replace f1 := (hb.frozen (p := ⟨X + 1, 1, none⟩) HX1.out).trans f1
  clear hb
  go_upto_region 3 with fail
  refine wp_region_still_tail 9 (by kernel_rfl) (by kernel_rfl) ?_
  simp only [List.take_succ_cons, List.take_zero, List.drop_succ_cons, List.drop_zero]
  generalize hW : ({ heap := w3.heap, tape := w3.tape, drawn := w3.drawn + 1, os := w3.os, output := w3.output } : World) = W
  have HWD : Hid (Below w.heap.size w W) := Lib.hid (by rw [← hW]; exact HB3.out.drew)
  replace x0 : W.cell? ⟨X, 0, none⟩ = some (.int .i64 (x : Int)) := by rw [← hW]; exact x0
  replace x1 : W.cell? ⟨X, 1, none⟩ = some (.int .i64 (y : Int)) := by rw [← hW]; exact x1
  replace z0 : W.cell? ⟨X + 1, 0, none⟩ = some (.int .i64 0) := by rw [← hW]; exact z0
  replace z1 : W.cell? ⟨X + 1, 1, none⟩ = some (.int .i64 0) := by rw [← hW]; exact z1
  replace f0 : W.frozen? ⟨X + 1, 0, none⟩ = false := by rw [← hW]; exact f0
  replace f1 : W.frozen? ⟨X + 1, 1, none⟩ = false := by rw [← hW]; exact f1
  have CX := Lib.hid (HFX.out W HWD.out)
  have CY := Lib.hid (HFY.out W HWD.out)
  clear hW HB3 HFX HFY
  repeat (first | still_step | (refine wpStill_step (fun K hK => ?_); go_simp; with_reducible refine ⟨_, CX.out, hK _ ?_⟩; clear hK K) | (refine wpStill_step (fun K hK => ?_); go_simp; with_reducible refine ⟨_, CY.out, hK _ ?_⟩; clear hK K))
  refine wpStill_nil ?_
  go_wp2_with fail
  refine bodyPost_ret (v := .agg #[.int .i64 A1, .int .i64 B1]) (by simp [results, Try.results33, go_sem, z0, z1]) rfl ⟨rfl, ?_⟩
  have hXX : w.heap.size ≤ X + 1 := by have := HXw.out; omega
  exact (HWD.out.setCell (p := ⟨X + 1, 0, none⟩) hXX _).setCell (p := ⟨X + 1, 1, none⟩) hXX _
end Go.Proofs.Ytbdmndhjbemenaa.aig
