import Derived.Test.YtbpjflghkkkenaaMg3
import Derived.Test.YtbpjflghkkkenaaMg1
/- The walk of heap's sink. -/
namespace Go.Proofs.Ytbpjflghkkkenaa.heap
open Go.RowKit
open Go.Proofs.Ytbpjflghkkkenaa.fns Go.Proofs.Ytbpjflghkkkenaa.hpf Go.Proofs.Ytbpjflghkkkenaa.ints

/-- how sink leaves things -/
def Sunk (A B g s p t m c n : Nat) (S P T : List Nat) (w w' : World) : Prop :=
  ∃ P' T', Hp A B w' g s p (.slice (some ⟨t, 0, none⟩) m c) n S P' T' ∧ Hok n S P' T' ∧ Same P P' ∧ T'.length = T.length ∧ Off t p w w'
set_option maxHeartbeats 3200000 in
theorem sink_any (A B g s p t m c n id q0 : Nat) (S P T : List Nat) (w : World) (h : Hp A B w g s p (.slice (some ⟨t, 0, none⟩) m c) n S P T) (hS : AllW S) (hI : OnWay n S id False P T q0) (hU : Up (vs S T) q0) (hn : n ≤ 1048576) (hm : m ≤ n) :
    Calls Try.prog 82 #[.pointer (some ⟨g, 0, none⟩), .int .i64 id] w fun e w' => e = .returned (.tuple #[]) ∧ Sunk A B g s p t m c n S P T w w' := by
  obtain ⟨hl, hmc, hcm, hBt, hts⟩ := h.len
  obtain ⟨-, -, hsA, -⟩ := h.low
  have hps : p < w.heap.size := (h.pl.lt p rfl).2
  have HL := Lib.hid hl
  have HS := Lib.hid hS
  obtain ⟨hidn, hpl⟩ := hI.place
  have hq0 := hI.lt
  have HI : Hid (OnWay n S id False P T q0 ∧ Up (vs S T) q0) := Lib.hid ⟨hI, hU⟩
  have HH := Lib.hid h
  have b1 : (id : Int) < (n : Int) := by omega
  have b2 : 0 ≤ (id : Int) := by omega
  have b3 : (q0 : Int) < 1048576 := by omega
  have HPL := Lib.hid hpl
  clear hS hI hU hl h hpl hcm hmc
  go_enter Try.func82, Try.ntmps82
  go_wp2_with fail
  go_at_call 86; refine (order_any A B g s p n _ S P T _ HH.out).mono ?_; rintro e w1 ⟨rfl, ho, hb⟩
  have hp1 := HH.out.on hb
  have HP1 := Lib.hid hp1
  have HO := Lib.hid ho
  have HB := Lib.hid (off_of_below (t := t) (p := p) hb)
  obtain ⟨-, c1, -, -⟩ := hp1.cG
  obtain ⟨x1, -⟩ := hp1.cP hidn
  rw [HPL.out] at x1
  clear hp1 ho hb HH
  go_wp2_with fail
  go_loopw [5] (fun a wr => ∃ (q : Nat) (P' T' : List Nat), a = .int .i64 q ∧ Hid (OnWay n S id False P' T' q ∧ Up (vs S T') q ∧ Same P P' ∧ T'.length = T.length) ∧ Hid (Hp A B wr g s p (.slice (some ⟨t, 0, none⟩) m c) n S P' T' ∧ Off t p w wr ∧ One wr w.heap.size (.slice (some ⟨s, 0, none⟩) n n))) (fun a _ => m - (intOf a).toNat)
  case atStart => exact ⟨q0, P, T, by go_num, Lib.hid ⟨HI.out.1, HI.out.2, Same.refl _, rfl⟩, Lib.hid ⟨HP1.out, HB.out, HO.out⟩⟩
  case round =>
    clear HP1 HO HB c1 x1 b1 b2 b3
    obtain ⟨q, P', T', rfl, HQ, HW⟩ := hrel
    obtain ⟨wo, rfl⟩ : ∃ wo : World, wo = wr := ⟨_, rfl⟩
    have hTl : T'.length = m := HW.out.1.len.1
    have hqm : q < m := by have a := HQ.out.1.lt; omega
    have HTL := Lib.hid hTl
    have HB0 := Lib.hid (Best.start (vs S T') hqm)
    have hq2 : q ≤ 1048576 := by omega
    clear hTl
    go_wp2_with fail
    go_loopw [6, 7] (fun a b wr => ∃ f bl : Nat, a = .int .i64 f ∧ b = .int .i64 bl ∧ bl ≤ 2 * q + 3 ∧ Hid (Best m (vs S T') q bl f) ∧ Hid (Hp A B wr g s p (.slice (some ⟨t, 0, none⟩) m c) n S P' T' ∧ Off t p w wr ∧ One wr w.heap.size (.slice (some ⟨s, 0, none⟩) n n))) (fun _ b _ => 2 * q + 3 - (intOf b).toNat)
    case atStart => exact ⟨q, 2 * q + 1, rfl, by go_num, by omega, HB0, HW⟩
    case round =>
      clear HB0 HW
      obtain ⟨f, bl, rfl, rfl, hb3, HF, HW⟩ := hrel
      obtain ⟨wi, rfl⟩ : ∃ wi : World, wi = wr := ⟨_, rfl⟩
      obtain ⟨e1, e2, e3⟩ := HW.out
      obtain ⟨-, -, c2, -⟩ := e1.cG
      have hfm := HF.out.fm
      by_cases hc : bl ≤ 2 * q + 2 ∧ bl < m
      · obtain ⟨k1, k2⟩ := hc
        obtain ⟨x1, -⟩ := e1.cT (i := bl) (by rw [HTL.out]; exact k2)
        obtain ⟨x2, -⟩ := e1.cT (i := f) (by rw [HTL.out]; exact hfm)
        obtain ⟨a, ha⟩ : ∃ a, a = T'.getD bl 0 := ⟨_, rfl⟩
        obtain ⟨b, hb⟩ : ∃ b, b = T'.getD f 0 := ⟨_, rfl⟩
        have han : a < n := by rw [ha]; exact (HQ.out.1.wf.at_ bl (by rw [HTL.out]; exact k2)).1
        have hbn : b < n := by rw [hb]; exact (HQ.out.1.wf.at_ f (by rw [HTL.out]; exact hfm)).1
        rw [← ha] at x1
        rw [← hb] at x2
        have hah : ah S a b = decide (vs S T' bl < vs S T' f) := by rw [ha, hb]; rfl
        have d1 : (bl : Int) < (m : Int) := by omega
        have d2 : 0 ≤ (bl : Int) := by omega
        have d3 : (f : Int) < (m : Int) := by omega
        have d4 : 0 ≤ (f : Int) := by omega
        have g1 : decide ((bl : Int) ≤ 2 * (q : Int) + 2) = true := by simp; omega
        have HE1 := Lib.hid e1
        have HE2 := Lib.hid e2
        have HE3 := Lib.hid e3
        clear e1 e2 e3 ha hb
        by_cases hlt : vs S T' bl < vs S T' f
        · have HN := Lib.hid (HF.out.take k2 k1 hlt)
          have HAH : Hid (ah S a b = true) := Lib.hid (by rw [hah]; exact decide_eq_true hlt)
          clear hah hlt
          go_wp2_with fail
          go_quiet ((first | (go_at_call 87; exact Calls.quiet_of (ahead_of A B g s p n w.heap.size a b _ S P' T' _ HAH.out (HE1.out.drewN _) HS.out (HE3.out.drewN _) han hbn hn)) | fail))
          have HX : Hid (Hp A B (wi.drewN nq) g s p (.slice (some ⟨t, 0, none⟩) m c) n S P' T' ∧ Off t p w (wi.drewN nq) ∧ One (wi.drewN nq) w.heap.size (.slice (some ⟨s, 0, none⟩) n n)) := Lib.hid ⟨HE1.out.drewN nq, HE2.out.drewN nq, HE3.out.drewN nq⟩
          go_wp2_with fail
          go_roundw
          case rel => exact ⟨bl, bl + 1, rfl, by go_num, by omega, HN, HX⟩
          case measure => simp [intOf]; omega
        · have HN := Lib.hid (HF.out.keep k1 (Nat.le_of_not_lt hlt))
          have HAH : Hid (ah S a b = false) := Lib.hid (by rw [hah]; exact decide_eq_false hlt)
          clear hah hlt
          go_wp2_with fail
          go_quiet ((first | (go_at_call 87; exact Calls.quiet_of (ahead_of A B g s p n w.heap.size a b _ S P' T' _ HAH.out (HE1.out.drewN _) HS.out (HE3.out.drewN _) han hbn hn)) | fail))
          have HX : Hid (Hp A B (wi.drewN nq) g s p (.slice (some ⟨t, 0, none⟩) m c) n S P' T' ∧ Off t p w (wi.drewN nq) ∧ One (wi.drewN nq) w.heap.size (.slice (some ⟨s, 0, none⟩) n n)) := Lib.hid ⟨HE1.out.drewN nq, HE2.out.drewN nq, HE3.out.drewN nq⟩
          go_wp2_with fail
          go_roundw
          case rel => exact ⟨f, bl + 1, rfl, by go_num, by omega, HN, HX⟩
          case measure => simp [intOf]; omega
      · have HN := Lib.hid (HF.out.end_ hc)
        have HFO := Lib.hid HF.out.or_
        have HE1 := Lib.hid e1
        have HE2 := Lib.hid e2
        have HE3 := Lib.hid e3
        have HC := Lib.hid hc
        clear e1 e2 e3 hc
        by_cases k1 : bl ≤ 2 * q + 2
        · have g1 : decide ((bl : Int) ≤ 2 * (q : Int) + 2) = true := by simp; omega
          have g2 : decide (bl < m) = false := by have := HC.out; simp; omega
          by_cases hfq : f = q
          · have t1 : ((f : Int) == (q : Int)) = true := by simp; omega
            have HE : Hid (Sunk A B g s p t m c n S P T w wi) := Lib.hid (by
              obtain ⟨a1, a2, a3, a4⟩ := HQ.out
              have hN := HN.out
              rw [hfq] at hN
              exact ⟨P', T', HE1.out, a1.done a2 (by rw [HTL.out]; exact hN), a3, a4, HE2.out⟩)
            clear hfq
            go_wp2_with fail
            refine bodyPost_ret (results_none rfl _ _ _) rfl ?_
            exact ⟨rfl, HE.out⟩
          · have t1 : ((f : Int) == (q : Int)) = false := by simp; omega
            have hff : 0 < f ∧ (f - 1) / 2 = q ∧ vs S T' f < vs S T' q := by
              rcases HFO.out with e | e
              · exact absurd e hfq
              · exact e
            have HR := Lib.hid (HQ.out.1.sink HQ.out.2.1 hff.1 (by rw [HTL.out]; exact hfm) hff.2.1 hff.2.2 (by rw [HTL.out]; exact HN.out))
            have hqf : q < f := by have := hff.1; have := hff.2.1; omega
            clear hff hfq
            go_wp2_with fail
            go_at_call 81; refine (swap_any A B g s p t m c n q f S P' T' _ HE1.out HQ.out.1.wf (by rw [HTL.out]; exact hqm) (by rw [HTL.out]; exact hfm) hn hm).mono ?_; rintro e w3 ⟨rfl, hp3, hoff⟩
            have HX : Hid (Hp A B w3 g s p (.slice (some ⟨t, 0, none⟩) m c) n S (swP P' T' q f) (swT T' q f) ∧ Off t p w w3 ∧ One w3 w.heap.size (.slice (some ⟨s, 0, none⟩) n n)) :=
              Lib.hid ⟨hp3, HE2.out.trans hoff, hoff.one HE3.out (by omega) (by omega)⟩
            clear hp3 hoff
            go_wp2_with fail
            go_roundw
            case rel => exact ⟨f, swP P' T' q f, swT T' q f, rfl, Lib.hid ⟨HR.out.1, HR.out.2.1, HQ.out.2.2.1.trans HR.out.2.2, by rw [swT_len]; exact HQ.out.2.2.2⟩, HX⟩
            case measure => simp [intOf]; omega
        · have g1 : decide ((bl : Int) ≤ 2 * (q : Int) + 2) = false := by simp; omega
          clear k1
          by_cases hfq : f = q
          · have t1 : ((f : Int) == (q : Int)) = true := by simp; omega
            have HE : Hid (Sunk A B g s p t m c n S P T w wi) := Lib.hid (by
              obtain ⟨a1, a2, a3, a4⟩ := HQ.out
              have hN := HN.out
              rw [hfq] at hN
              exact ⟨P', T', HE1.out, a1.done a2 (by rw [HTL.out]; exact hN), a3, a4, HE2.out⟩)
            clear hfq
            go_wp2_with fail
            refine bodyPost_ret (results_none rfl _ _ _) rfl ?_
            exact ⟨rfl, HE.out⟩
          · have t1 : ((f : Int) == (q : Int)) = false := by simp; omega
            have hff : 0 < f ∧ (f - 1) / 2 = q ∧ vs S T' f < vs S T' q := by
              rcases HFO.out with e | e
              · exact absurd e hfq
              · exact e
            have HR := Lib.hid (HQ.out.1.sink HQ.out.2.1 hff.1 (by rw [HTL.out]; exact hfm) hff.2.1 hff.2.2 (by rw [HTL.out]; exact HN.out))
            have hqf : q < f := by have := hff.1; have := hff.2.1; omega
            clear hff hfq
            go_wp2_with fail
            go_at_call 81; refine (swap_any A B g s p t m c n q f S P' T' _ HE1.out HQ.out.1.wf (by rw [HTL.out]; exact hqm) (by rw [HTL.out]; exact hfm) hn hm).mono ?_; rintro e w3 ⟨rfl, hp3, hoff⟩
            have HX : Hid (Hp A B w3 g s p (.slice (some ⟨t, 0, none⟩) m c) n S (swP P' T' q f) (swT T' q f) ∧ Off t p w w3 ∧ One w3 w.heap.size (.slice (some ⟨s, 0, none⟩) n n)) :=
              Lib.hid ⟨hp3, HE2.out.trans hoff, hoff.one HE3.out (by omega) (by omega)⟩
            clear hp3 hoff
            go_wp2_with fail
            go_roundw
            case rel => exact ⟨f, swP P' T' q f, swT T' q f, rfl, Lib.hid ⟨HR.out.1, HR.out.2.1, HQ.out.2.2.1.trans HR.out.2.2, by rw [swT_len]; exact HQ.out.2.2.2⟩, HX⟩
            case measure => simp [intOf]; omega
end Go.Proofs.Ytbpjflghkkkenaa.heap

/- The walks of heap's New, and of what only reads; a nil one. -/
namespace Go.Proofs.Ytbpjflghkkkenaa.heap
open Go.RowKit
open Go.Proofs.Ytbpjflghkkkenaa.fns Go.Proofs.Ytbpjflghkkkenaa.hpf Go.Proofs.Ytbpjflghkkkenaa.ints

theorem retF {a b : Nat} (h : a = b) : Ending.returned (.float .f64 a) = .returned (.float .f64 b) := by rw [h]
theorem known_any (A B g s p n x : Nat) (tv : Value) (S P T : List Nat) (w : World) (h : Hp A B w g s p tv n S P T) (hx : x < n) :
    Calls Try.prog 83 #[.pointer (some ⟨g, 0, none⟩), .int .i64 x] w fun e w' => e = .returned (.bool true) ∧ w = w' := by
  obtain ⟨c0, -, -, -⟩ := h.cG
  have t1 : decide (x < n) = true := by simp; omega
  clear h
  go_enter Try.func83, Try.ntmps83
  go_wp2_with fail
  go_ret
  exact ⟨rfl, rfl⟩
theorem known_nil (x : Int) (w : World) : Calls Try.prog 83 #[.pointer none, .int .i64 x] w fun e w' => e = .returned (.bool false) ∧ w = w' := by
  go_enter Try.func83, Try.ntmps83
  go_wp2_with fail
  go_ret
  exact ⟨rfl, rfl⟩
theorem Has_of (A B g s p n x : Nat) (tv : Value) (S P T : List Nat) (w : World) {r : Bool} (hr : decide (0 < P.getD x 0) = r) (h : Hp A B w g s p tv n S P T) (hx : x < n) :
    Calls Try.prog 84 #[.pointer (some ⟨g, 0, none⟩), .int .i64 x] w fun e w' => e = .returned (.bool r) ∧ w = w' := by
  obtain ⟨-, c1, -, -⟩ := h.cG
  obtain ⟨x1, -⟩ := h.cP hx
  have HH := Lib.hid h
  have HR := Lib.hid hr
  obtain ⟨v, hv⟩ : ∃ v, v = P.getD x 0 := ⟨_, rfl⟩
  rw [← hv] at x1 HR
  have d1 : (x : Int) < (n : Int) := by omega
  have d2 : 0 ≤ (x : Int) := by omega
  clear h hr hv
  go_enter Try.func84, Try.ntmps84
  go_wp2_with fail
  go_at_call 83; refine (known_any A B g s p n x _ S P T _ HH.out hx).mono ?_; rintro e w' ⟨rfl, rfl⟩
  go_wp2_with fail
  go_ret
  exact ⟨score.retB (by rw [← HR.out]), rfl⟩
theorem Has_nil (x : Int) (w : World) : Calls Try.prog 84 #[.pointer none, .int .i64 x] w fun e w' => e = .returned (.bool false) ∧ w = w' := by
  go_enter Try.func84, Try.ntmps84
  go_wp2_with fail
  go_at_call 83; refine (known_nil x _).mono ?_; rintro e w' ⟨rfl, rfl⟩
  go_wp2_with fail
  go_ret
  exact ⟨rfl, rfl⟩
theorem Hp.tv {A B : Nat} {w : World} {g s p n : Nat} {tv : Value} {S P T : List Nat} (h : Hp A B w g s p tv n S P T) : ∃ a c, tv = .slice a T.length c := by
  rcases h.tr.2 with ⟨e, e2⟩ | ⟨t, c, cur, e, -⟩
  · exact ⟨none, 0, by rw [e, e2]⟩
  · exact ⟨_, _, e⟩
theorem Len_any (A B g s p n : Nat) (tv : Value) (S P T : List Nat) (w : World) (h : Hp A B w g s p tv n S P T) :
    Calls Try.prog 80 #[.pointer (some ⟨g, 0, none⟩)] w fun e w' => e = .returned (.int .i64 T.length) ∧ w = w' := by
  obtain ⟨-, -, c2, -⟩ := h.cG
  obtain ⟨a, c, rfl⟩ := h.tv
  clear h
  go_enter Try.func80, Try.ntmps80
  go_wp2_with fail
  go_ret
  exact ⟨rfl, rfl⟩
theorem Len_nil (w : World) : Calls Try.prog 80 #[.pointer none] w fun e w' => e = .returned (.int .i64 0) ∧ w = w' := by
  go_enter Try.func80, Try.ntmps80
  go_wp2_with fail
  go_ret
  exact ⟨rfl, rfl⟩
theorem Push_nil (x : Int) (w : World) : Calls Try.prog 79 #[.pointer none, .int .i64 x] w fun e w' => e = .returned (.int .i64 1) ∧ w = w' := by
  go_enter Try.func79, Try.ntmps79
  go_wp2_with fail
  go_at_call 83; refine (known_nil x _).mono ?_; rintro e w' ⟨rfl, rfl⟩
  go_wp2_with fail
  go_ret
  exact ⟨rfl, rfl⟩
theorem Pop_nil (w : World) : Calls Try.prog 75 #[.pointer none] w fun e w' => e = .returned (.tuple #[.int .i64 0, .bool false]) ∧ w = w' := by
  go_enter Try.func75, Try.ntmps75
  go_wp2_with fail
  go_at_call 80; refine (Len_nil _).mono ?_; rintro e w' ⟨rfl, rfl⟩
  go_wp2_with fail
  go_ret2
  exact ⟨rfl, rfl⟩
theorem Pop_none (A B g s p n : Nat) (tv : Value) (S P : List Nat) (w : World) (h : Hp A B w g s p tv n S P []) :
    Calls Try.prog 75 #[.pointer (some ⟨g, 0, none⟩)] w fun e w' => e = .returned (.tuple #[.int .i64 0, .bool false]) ∧ w = w' := by
  have HH := Lib.hid h
  clear h
  go_enter Try.func75, Try.ntmps75
  go_wp2_with fail
  go_at_call 80; refine (Len_any A B g s p n _ S P [] _ HH.out).mono ?_; rintro e w' ⟨rfl, rfl⟩
  go_wp2_with fail
  go_ret2
  exact ⟨rfl, rfl⟩

theorem infoF : (Try.prog.info? 108).map (fun i => (i.zero, i.size, i.bytes)) = some (some (.float .f64 0), 1, 8) := by kernel_rfl
theorem mk_floats (n : Nat) (w : World) (hn : n ≤ 1048576) : (Instr.makeSlice 99 (.int .i64 (n : Int)) (.int .i64 (n : Int))).run Try.prog w =
    .ok (.slice (some ⟨w.heap.size, 0, none⟩) n n) (w.alloc (.cells (madeCells #[.float .f64 0] n) 108)) := by
  obtain ⟨i0, hi, hz0, hz1, hz2⟩ := info_parts infoF
  have h := run_make (P := Try.prog) w 99 108 i0 _ Try.underlying99 hi hz0 .i64 .i64 n n (by omega) (Int.le_refl _) (by rw [hz2]; omega) (by omega)
  rw [hz1, Nat.mul_one, Int.toNat_natCast] at h
  exact h
theorem mk_ints (n : Nat) (w : World) (hn : n ≤ 1048576) : (Instr.makeSlice 22 (.int .i64 (n : Int)) (.int .i64 (n : Int))).run Try.prog w =
    .ok (.slice (some ⟨w.heap.size, 0, none⟩) n n) (w.alloc (.cells (madeCells #[.int .i64 0] n) 3)) := by
  obtain ⟨i0, hi, hz0, hz1, hz2⟩ := info_parts infoInt
  have h := run_make (P := Try.prog) w 22 3 i0 _ Try.underlying22 hi hz0 .i64 .i64 n n (by omega) (Int.le_refl _) (by rw [hz2]; omega) (by omega)
  rw [hz1, Nat.mul_one, Int.toNat_natCast] at h
  exact h
theorem made_list (z : Value) (n : Nat) : (madeCells #[z] n).toList = List.replicate n z := toList_madeCells_one z n
theorem rows_of (w1 : World) (n k : Nat) (A : Nat) (z : Value) (t : TypeId) (hn : n ≤ 1048576) (hA : A ≤ k) (h : w1.heap[k]? = some (.cells (madeCells #[z] n) t (0, 0))) :
    w1.ownsRow A t 1 (.slice (some ⟨k, 0, none⟩) n n) n (List.replicate n z) :=
  ⟨by simp, .inr ⟨k, n, _, rfl, hA, h, Nat.le_refl _, by unfold maxLen; omega, by simp [madeCells], by rw [made_list, List.take_of_length_le (by simp)]⟩⟩
def Newly (n : Nat) (w : World) (e : Ending) (w' : World) : Prop :=
  ∃ g s p B, e = .returned (.pointer (some ⟨g, 0, none⟩)) ∧ Hp w.heap.size B w' g s p (.slice none 0 0) n (List.replicate n 0) (List.replicate n 0) [] ∧ Below w.heap.size w w'
theorem heap3 (w : World) (a b c : Obj) : (((w.alloc a).alloc b).alloc c).heap[w.heap.size]? = some a ∧ (((w.alloc a).alloc b).alloc c).heap[w.heap.size + 1]? = some b ∧
    (((w.alloc a).alloc b).alloc c).heap[w.heap.size + 1 + 1]? = some c ∧ (((w.alloc a).alloc b).alloc c).heap.size = w.heap.size + 3 := by
  have e : (((w.alloc a).alloc b).alloc c).heap = ((w.heap.push a).push b).push c := rfl
  rw [e]
  refine ⟨?_, ?_, ?_, by simp⟩
  · rw [Array.getElem?_push, if_neg (by simp only [Array.size_push]; omega), Array.getElem?_push, if_neg (by simp only [Array.size_push]; omega), Array.getElem?_push, if_pos rfl]
  · rw [Array.getElem?_push, if_neg (by simp only [Array.size_push]; omega), Array.getElem?_push, if_pos (by simp only [Array.size_push])]
  · rw [Array.getElem?_push, if_pos (by simp only [Array.size_push])]
theorem new_a (n : Nat) (w : World) (hn : n ≤ 1048576) (t : TypeId) : Newly n w (.returned (.pointer (some ⟨w.heap.size + 1 + 1, 0, none⟩)))
    (((w.alloc (.cells (madeCells #[.float .f64 0] n) 108)).alloc (.cells (madeCells #[.int .i64 0] n) 3)).alloc (.cells #[.slice (some ⟨w.heap.size, 0, none⟩) n n, .slice (some ⟨w.heap.size + 1, 0, none⟩) n n, .slice none 0 0] t)) := by
  obtain ⟨h0, h1, h2, h3⟩ := heap3 w (.cells (madeCells #[.float .f64 0] n) 108) (.cells (madeCells #[.int .i64 0] n) 3) (.cells #[.slice (some ⟨w.heap.size, 0, none⟩) n n, .slice (some ⟨w.heap.size + 1, 0, none⟩) n n, .slice none 0 0] t)
  refine ⟨_, w.heap.size, w.heap.size + 1, w.heap.size + 3, rfl, ⟨⟨t, h2⟩, ?_, ?_, World.ownsRow_nil _ _ _ _, by omega⟩, (((Below.refl _ _).alloc (Nat.le_refl _) _).alloc (by simp) _).alloc (by simp; omega) _⟩
  · have := rows_of _ n w.heap.size w.heap.size (.float .f64 0) 108 hn (by omega) h0
    simpa [fcells] using this
  · have := rows_of _ n (w.heap.size + 1) w.heap.size (.int .i64 0) 3 hn (by omega) h1
    simpa [ncells] using this
theorem new_b (n : Nat) (w : World) (hn : n ≤ 1048576) (t : TypeId) : Newly n w (.returned (.pointer (some ⟨w.heap.size + 1 + 1, 0, none⟩)))
    (((w.alloc (.cells (madeCells #[.int .i64 0] n) 3)).alloc (.cells (madeCells #[.float .f64 0] n) 108)).alloc (.cells #[.slice (some ⟨w.heap.size + 1, 0, none⟩) n n, .slice (some ⟨w.heap.size, 0, none⟩) n n, .slice none 0 0] t)) := by
  obtain ⟨h0, h1, h2, h3⟩ := heap3 w (.cells (madeCells #[.int .i64 0] n) 3) (.cells (madeCells #[.float .f64 0] n) 108) (.cells #[.slice (some ⟨w.heap.size + 1, 0, none⟩) n n, .slice (some ⟨w.heap.size, 0, none⟩) n n, .slice none 0 0] t)
  refine ⟨_, w.heap.size + 1, w.heap.size, w.heap.size + 3, rfl, ⟨⟨t, h2⟩, ?_, ?_, World.ownsRow_nil _ _ _ _, by omega⟩, (((Below.refl _ _).alloc (Nat.le_refl _) _).alloc (by simp) _).alloc (by simp; omega) _⟩
  · have := rows_of _ n (w.heap.size + 1) w.heap.size (.float .f64 0) 108 hn (by omega) h1
    simpa [fcells] using this
  · have := rows_of _ n w.heap.size w.heap.size (.int .i64 0) 3 hn (by omega) h0
    simpa [ncells] using this
theorem Newly.drew {n : Nat} {w w' : World} {e : Ending} (h : Newly n w e w') (q : Nat) : Newly n w e (w'.drewN q) := by
  obtain ⟨g, s, p, B, h1, h2, h3⟩ := h
  exact ⟨g, s, p, B, h1, h2.drewN q, below_drewN h3 q⟩
theorem New_any (n : Nat) (w : World) (hn : n ≤ 1048576) : Calls Try.prog 73 #[.int .i64 n] w (Newly n w) := by
  have h1 := fun w => mk_floats n w hn
  have h2 := fun w => mk_ints n w hn
  have t1 : decide (1048576 < n) = false := by simp; omega
  have HA := Lib.hid (new_a n w hn 101)
  have HB := Lib.hid (new_b n w hn 101)
  go_enter Try.func73, Try.ntmps73
  go_wp2_with fail
  go_region
  all_goals
    go_wp2_with fail
    go_ret
    first | exact HA.out.drew 1 | exact HB.out.drew 1
end Go.Proofs.Ytbpjflghkkkenaa.heap

/- Heaps, purely: what a push, a new score and a pop begin with. -/
namespace Go.Proofs.Ytbpjflghkkkenaa.hpf
open Go.Proofs.Ytbpjflghkkkenaa.fns

theorem snoc_l {T : List Nat} {x i : Nat} (hi : i < T.length) : (T ++ [x]).getD i 0 = T.getD i 0 := by simp [List.getD, List.getElem?_append_left hi]
theorem snoc_r (T : List Nat) (x : Nat) : (T ++ [x]).getD T.length 0 = x := by simp [List.getD]
theorem push_way {n x : Nat} {S P T : List Nat} (h : Hok n S P T) (hx : x < n) (h0 : P.getD x 0 = 0) : OnWay n S x True (P.set x (T.length + 1)) (T ++ [x]) T.length := by
  have hf : Full T.length (vs S (T ++ [x])) := full_cong (fun i hi => by unfold vs; rw [snoc_l hi]) h.full
  have hm := full_more hf
  have hl : (T ++ [x]).length = T.length + 1 := by simp
  exact ⟨wf_push h.wf hx h0, by omega, snoc_r T x, by rw [hl]; exact hm.1, fun _ => by rw [hl]; exact hm.2⟩
theorem set_out {n x b : Nat} {S P T : List Nat} (h : Hok n S P T) (h0 : P.getD x 0 = 0) : Hok n (S.set x b) P T :=
  ⟨h.wf, full_cong (fun i hi => by
    unfold vs
    exact rank_set (by intro e; have := (h.wf.at_ i hi).2; rw [e, h0] at this; omega)) h.full⟩
theorem set_way {n x b q : Nat} {S P T : List Nat} (h : Hok n S P T) (hx : x < n) (hq : P.getD x 0 = q + 1) : OnWay n (S.set x b) x False P T q := by
  obtain ⟨a, c⟩ := h.wf.back x hx (by omega)
  rw [hq, Nat.add_sub_cancel] at c
  have hqT : q < T.length := by omega
  refine ⟨h.wf, hqT, c, ?_, fun e => e.elim⟩
  have hh : Hole T.length (fun i => if i = q then vs (S.set x b) T q else vs S T i) q := hole_of hqT h.full (fun i hi => by rw [if_neg hi])
  refine hole_cong (fun i hi => ?_) hqT hh
  by_cases e : i = q
  · rw [e, if_pos rfl]
  · rw [if_neg e]
    unfold vs
    exact rank_set (by intro e2; have := h.wf.inj hi hqT (by rw [e2, c]); exact e this)
theorem take_at {T : List Nat} {e i : Nat} (hi : i < e) : (T.take e).getD i 0 = T.getD i 0 := by simp [List.getD, hi]
theorem pop_wf {n e : Nat} {S P T : List Nat} (h : Hok n S P T) (he : T.length = e + 1) : Wf n ((swP P T 0 e).set (T.getD 0 0) 0) ((swT T 0 e).take e) ∧ ((swT T 0 e).take e).length = e := by
  obtain ⟨w1, -⟩ := wf_sw h.wf (i := 0) (k := e) (by omega) (by omega)
  refine ⟨wf_pop w1 (by rw [swT_len]; omega) (swT_r (by omega) (by omega)), ?_⟩
  rw [List.length_take, swT_len]; omega
theorem pop_none {n : Nat} {S P T : List Nat} (h : Hok n S P T) (he : T.length = 0 + 1) : Hok n S ((swP P T 0 0).set (T.getD 0 0) 0) ((swT T 0 0).take 0) :=
  ⟨(pop_wf h he).1, full_one _ (by simp)⟩
theorem pop_way {n e : Nat} {S P T : List Nat} (h : Hok n S P T) (he : T.length = e + 1) (h0 : 0 < e) :
    OnWay n S (((swT T 0 e).take e).getD 0 0) False ((swP P T 0 e).set (T.getD 0 0) 0) ((swT T 0 e).take e) 0 ∧ Up (vs S ((swT T 0 e).take e)) 0 := by
  obtain ⟨w1, l1⟩ := pop_wf h he
  refine ⟨⟨w1, by rw [l1]; exact h0, rfl, ?_, fun x => x.elim⟩, fun x => absurd x (by omega)⟩
  rw [l1]
  have hv : ∀ i, i < e → i ≠ 0 → vs S ((swT T 0 e).take e) i = vs S T i := by
    intro i hi h1
    unfold vs
    rw [take_at hi, swT_at (by omega) (by omega), sw_o _ h1 (by omega)]
  refine ⟨fun i i0 hi e1 e2 => ?_, fun i i0 hi e1 x => by omega⟩
  rw [hv i hi e1, hv _ (by omega) e2]
  exact h.full i i0 (by omega)
theorem same_set {n x : Nat} {P P' : List Nat} (hl : P.length = n) (hl' : P'.length = n) (hx : x < n) (h : Same P P') : Same (P.set x 0) (P'.set x 0) := by
  intro y
  rw [getD_set (by omega), getD_set (by omega)]
  by_cases e : y = x
  · rw [if_pos e, if_pos e]
  · rw [if_neg e, if_neg e]; exact h y
end Go.Proofs.Ytbpjflghkkkenaa.hpf
