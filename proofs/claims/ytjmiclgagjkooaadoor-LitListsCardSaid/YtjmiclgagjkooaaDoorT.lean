/- The walks of lit's Tied and the document's. -/
import Derived.Test.YtjmiclgagjkooaaDoorS2
import Derived.Test.YtjmiclgagjkooaaDoorR
namespace Go.Proofs.YtjmiclgagjkooaaDoor.lits
open Go.RowKit
open Go.Proofs.YtjmiclgagjkooaaDoor.fns

theorem tied_not {l : List Int} (h : ∀ i, i < l.length → (goodB (l.getD i 0) && hasB l (litNot (l.getD i 0))) = false) : tiedB l = false :=
  tied_no fun x hx => by
    obtain ⟨i, hi, e⟩ := List.getElem_of_mem hx
    have := h i hi
    rw [getD_of hi, e] at this
    exact this
theorem tied_at {l : List Int} {k : Nat} (h : k < l.length) (hg : goodB (l.getD k 0) = true) (hn : hasB l (litNot (l.getD k 0)) = true) : tiedB l = true :=
  tied_yes (by rw [getD_of h]; exact List.getElem_mem _) hg hn

theorem refHas_of {zs : List Int} {v : Value} {x : Int} {b : Bool} {w : World} (hv : Ints w v zs) (hb : hasB zs x = b) :
    Calls Tryd.prog 20 #[v, .int .i64 x] w fun e w' => e = .returned (.bool b) ∧ w = w' := by
  have := refHas_any zs v x w hv; rw [hb] at this; exact this

set_option maxHeartbeats 400000 in
theorem refTied_any (zs : List Int) (v : Value) (w : World) (hv : Ints w v zs) :
    Calls Tryd.prog 22 #[v] w fun e w' => e = .returned (.bool (tiedB zs)) ∧ w = w' := by
  have HV := Lib.hid hv
  obtain ⟨a, cap, rfl, h1, h2, h3⟩ := hv
  unfold maxLen at h2
  obtain ⟨n, hn⟩ : ∃ n, n = zs.length := ⟨_, rfl⟩
  rw [← hn] at h1 HV ⊢
  have HN := Lib.hid hn
  have HC := Lib.hid h3
  clear h3 hn
  go_enter Tryd.func22, Tryd.ntmps22
  go_wp2
  go_loop [3] (fun i => ∃ k : Nat, k ≤ n ∧ i = .int .i64 k ∧ ∀ i, i < k → (goodB (zs.getD i 0) && hasB zs (litNot (zs.getD i 0))) = false) (fun i => n - (intOf i).toNat)
  case atStart => exact ⟨0, Nat.zero_le _, rfl, fun i hi => by omega⟩
  case round =>
    obtain ⟨k, hk, rfl, hno⟩ := hrel
    have HNO := Lib.hid hno
    clear hno
    by_cases h4 : k < n
    · have h5 := h4
      rw [HN.out] at h5
      obtain ⟨b, off, rfl, hlt, hc⟩ := HC.out (by omega)
      have hck := hc k h5
      obtain ⟨y, hy⟩ : ∃ y, y = zs.getD k 0 := ⟨_, rfl⟩
      rw [← hy] at hck
      have HY := Lib.hid hy
      have H5 := Lib.hid h5
      clear hc hy h5
      cases hg : goodB y with
      | false =>
        have HG := Lib.hid hg
        clear hg
        go_wp2_with fail
        go_at_call 9; refine (refGood_no HG.out _).mono ?_; rintro e w' ⟨rfl, rfl⟩
        go_wp2_with fail
        go_round
        case rel => exact ⟨k + 1, by omega, by go_num, fun i hi => by
          by_cases e : i = k
          · rw [e, ← HY.out, HG.out]; rfl
          · exact HNO.out i (by omega)⟩
        case measure => simp [intOf]; omega
      | true =>
        have HG := Lib.hid hg
        clear hg
        cases hh : hasB zs (litNot y) with
        | false =>
          have HH := Lib.hid hh
          clear hh
          go_wp2_with fail
          go_at_call 9; refine (refGood_yes HG.out _).mono ?_; rintro e w' ⟨rfl, rfl⟩
          go_wp2_with fail
          go_at_call 13; refine (refNot_any _ _).mono ?_; rintro e w' ⟨rfl, rfl⟩
          go_wp2_with fail
          go_at_call 20; refine (refHas_of HV.out HH.out).mono ?_; rintro e w' ⟨rfl, rfl⟩
          go_wp2_with fail
          go_round
          case rel => exact ⟨k + 1, by omega, by go_num, fun i hi => by
            by_cases e : i = k
            · rw [e, ← HY.out, HH.out, Bool.and_false]
            · exact HNO.out i (by omega)⟩
          case measure => simp [intOf]; omega
        | true =>
          have HH := Lib.hid hh
          clear hh
          have HR := Lib.hid (tied_at H5.out (by rw [← HY.out]; exact HG.out) (by rw [← HY.out]; exact HH.out))
          go_wp2_with fail
          go_at_call 9; refine (refGood_yes HG.out _).mono ?_; rintro e w' ⟨rfl, rfl⟩
          go_wp2_with fail
          go_at_call 13; refine (refNot_any _ _).mono ?_; rintro e w' ⟨rfl, rfl⟩
          go_wp2_with fail
          go_at_call 20; refine (refHas_of HV.out HH.out).mono ?_; rintro e w' ⟨rfl, rfl⟩
          go_wp2_with fail
          go_ret
          exact ⟨retB HR.out.symm, rfl⟩
    · have HR := Lib.hid (tied_not (l := zs) (fun i hi => HNO.out i (by rw [← HN.out] at hi; omega)))
      have c1 : decide ((k : Int) < (n : Int)) = false := by simp; omega
      go_wp2
      go_ret
      exact ⟨retB HR.out.symm, rfl⟩

theorem Neg_q {l : Int} {b : Bool} (h : litNeg l = b) (w : World) : Calls Tryd.prog 14 #[.int .i64 l] w fun e w' => e = .returned (.bool b) ∧ w' = w :=
  (Neg_of h w).mono fun _ _ ⟨h1, h2⟩ => ⟨h1, h2.symm⟩
theorem Not_q (l : Int) (w : World) : Calls Tryd.prog 12 #[.int .i64 l] w fun e w' => e = .returned (.int .i64 (litNot l)) ∧ w' = w :=
  (Not_any l w).mono fun _ _ ⟨h1, h2⟩ => ⟨h1, h2.symm⟩
theorem hit_no1 {r : List Int} {i : Nat} (h : litNeg (r.getD i 0) = false) : hit r i = false := by unfold hit; rw [h]; rfl
theorem hit_no2 {r : List Int} {i : Nat} (h : ¬ r.getD (i - 1) 0 = litNot (r.getD i 0)) : hit r i = false := by
  unfold hit; rw [decide_eq_false h, Bool.and_false]
theorem hit_yes {r : List Int} {i : Nat} (h : litNeg (r.getD i 0) = true) (h2 : r.getD (i - 1) 0 = litNot (r.getD i 0)) : hit r i = true := by
  unfold hit; rw [h, decide_eq_true h2]; rfl

set_option maxHeartbeats 800000 in
theorem Tied_any (zs : List Int) (v : Value) (w : World) (hv : Ints w v zs) (hz : zs.length * 8 ≤ 140737488355328) :
    Calls Tryd.prog 21 #[v] w fun e w' => e = .returned (.bool (tiedB zs)) ∧ Below w.heap.size w w' := by
  have HV := Lib.hid hv
  have HZ := Lib.hid hz
  obtain ⟨a0, cap0, rfl, -, -, -⟩ := hv
  obtain ⟨n0, hn0⟩ : ∃ n, n = zs.length := ⟨_, rfl⟩
  rw [← hn0] at HV hz ⊢
  clear hn0
  go_enter Tryd.func21, Tryd.ntmps21
  go_wp2_with fail
  go_at_call 17; refine (Sorted_any zs _ _ HV.out HZ.out).mono ?_; rintro e w1 ⟨v1, rfl, hi1, b1⟩
  obtain ⟨r, hr⟩ : ∃ r, r = srt zs := ⟨_, rfl⟩
  rw [← hr] at hi1
  have HRR := Lib.hid hr
  have B1 := Lib.hid b1
  obtain ⟨a, cap, rfl, h1, h2, h3⟩ := hi1
  unfold maxLen at h2
  obtain ⟨n, hn⟩ : ∃ n, n = r.length := ⟨_, rfl⟩
  rw [← hn] at h1 ⊢
  have HN := Lib.hid hn
  have HC := Lib.hid h3
  clear h3 hn hr b1
  go_wp2
  go_loopw [4] (fun i wr => ∃ (k d : Nat), 1 ≤ k ∧ (k ≤ n ∨ k ≤ 1) ∧ i = .int .i64 k ∧ (∀ i, 1 ≤ i → i < k → hit r i = false) ∧ wr = w1.drewN d) (fun i _ => n - (intOf i).toNat)
  case atStart => exact ⟨1, 0, Nat.le_refl _, .inr (Nat.le_refl _), rfl, fun i hi hi' => by omega, by simp [World.drewN_zero]⟩
  case round =>
    obtain ⟨k, d, hk1, hk, rfl, hno, hwd⟩ := hrel
    have HWD := Lib.hid hwd
    have BW : Hid (Below w.heap.size w wr) := Lib.hid (hwd ▸ below_drewN B1.out d)
    clear hwd
    have HNO := Lib.hid hno
    clear hno
    by_cases h4 : k < n
    · have h5 := h4
      rw [HN.out] at h5
      obtain ⟨b, off, rfl, hlt, hc⟩ := HC.out (by omega)
      have hck : wr.cell? ⟨b, off + k, none⟩ = some (.int .i64 (r.getD k 0)) := by rw [HWD.out]; exact hc k h5
      have hcp : wr.cell? ⟨b, off + (k - 1), none⟩ = some (.int .i64 (r.getD (k - 1) 0)) := by rw [HWD.out]; exact hc (k - 1) (by omega)
      obtain ⟨y, hy⟩ : ∃ y, y = r.getD k 0 := ⟨_, rfl⟩
      obtain ⟨x, hx⟩ : ∃ x, x = r.getD (k - 1) 0 := ⟨_, rfl⟩
      rw [← hy] at hck
      rw [← hx] at hcp
      have HY := Lib.hid hy
      have HX := Lib.hid hx
      have H5 := Lib.hid h5
      have hki : (k : Int) < (n : Int) := by omega
      have hk1i : 1 ≤ (k : Int) := by omega
      have e1 : IntKind.i64.wrap ((k : Int) - 1) = (k : Int) - 1 := IntWalk.i64_in _ (by omega)
      have e2 : ((k : Int) - 1).toNat = k - 1 := by omega
      clear hc hy hx h5
      cases hg : litNeg y with
      | false =>
        have HG := Lib.hid hg
        have HT := Lib.hid (hit_no1 (r := r) (i := k) (by rw [← HY.out]; exact hg))
        clear hg
        go_wp2
        go_quiet ((go_at_call 14; exact Calls.quiet_of_same (Neg_q HG.out _)))
        go_wp2
        refine ⟨⟨k + 1, d + nq, by omega, .inl (by omega), by go_num, fun i hi hi' => ?_, by rw [HWD.out]; simp [World.drewN, Nat.add_assoc]⟩, by simp [intOf]; omega⟩
        by_cases e : i = k
        · rw [e]; exact HT.out
        · exact HNO.out i hi (by omega)
      | true =>
        have HG := Lib.hid hg
        clear hg
        by_cases hxy : x = litNot y
        · have c1 : (x == litNot y) = true := by simp [hxy]
          have HT := Lib.hid (hit_tied (l := zs) hk1 (by rw [← HRR.out]; exact H5.out) (by rw [← HRR.out]; exact hit_yes (by rw [← HY.out]; exact HG.out) (by rw [← HY.out, ← HX.out]; exact hxy)))
          clear hxy
          go_wp2
          go_quiet ((first | (go_at_call 14; exact Calls.quiet_of_same (Neg_q HG.out _)) | (go_at_call 12; exact Calls.quiet_of_same (Not_q _ _))))
          go_wp2
          go_ret
          exact ⟨retB HT.out.symm, below_drewN BW.out _⟩
        · have c1 : (x == litNot y) = false := by simp [hxy]
          have HT := Lib.hid (hit_no2 (r := r) (i := k) (by rw [← HY.out, ← HX.out]; exact hxy))
          clear hxy
          go_wp2
          go_quiet ((first | (go_at_call 14; exact Calls.quiet_of_same (Neg_q HG.out _)) | (go_at_call 12; exact Calls.quiet_of_same (Not_q _ _))))
          go_wp2
          refine ⟨⟨k + 1, d + nq, by omega, .inl (by omega), by go_num, fun i hi hi' => ?_, by rw [HWD.out]; simp [World.drewN, Nat.add_assoc]⟩, by simp [intOf]; omega⟩
          by_cases e : i = k
          · rw [e]; exact HT.out
          · exact HNO.out i hi (by omega)
    · have HT := Lib.hid (no_hit (l := zs) (fun i hi hi' => by rw [← HRR.out] at hi' ⊢; exact HNO.out i hi (by rw [← HN.out] at hi'; omega)))
      have c1 : decide ((k : Int) < (n : Int)) = false := by simp; omega
      go_wp2
      go_ret
      exact ⟨retB HT.out.symm, BW.out⟩
end Go.Proofs.YtjmiclgagjkooaaDoor.lits
