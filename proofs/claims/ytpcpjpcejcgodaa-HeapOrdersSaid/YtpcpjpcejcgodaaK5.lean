/- The walk of heap's sink. -/
import Derived.Test.YtpcpjpcejcgodaaK4
namespace Go.Proofs.Ytpcpjpcejcgodaa.heap
open Go.RowKit
open Go.Proofs.Ytpcpjpcejcgodaa.fns Go.Proofs.Ytpcpjpcejcgodaa.hpf Go.Proofs.Ytpcpjpcejcgodaa.ints

/-- how sink leaves things -/
def Sunk (A B g s p t m c n : Nat) (S P T : List Nat) (w w' : World) : Prop :=
  ∃ P' T', Hp A B w' g s p (.slice (some ⟨t, 0, none⟩) m c) n S P' T' ∧ Hok n S P' T' ∧ Same P P' ∧ T'.length = T.length ∧ Off t p w w'
set_option maxHeartbeats 3200000 in
theorem sink_any (A B g s p t m c n id q0 : Nat) (S P T : List Nat) (w : World) (h : Hp A B w g s p (.slice (some ⟨t, 0, none⟩) m c) n S P T) (hS : AllW S) (hI : OnWay n S id False P T q0) (hU : Up (vs S T) q0) (hn : n ≤ 1048576) (hm : m ≤ n) :
    Calls Try.prog 19 #[.pointer (some ⟨g, 0, none⟩), .int .i64 id] w fun e w' => e = .returned (.tuple #[]) ∧ Sunk A B g s p t m c n S P T w w' := by
  obtain ⟨hl, hmc, hcm, hBt, hts⟩ := h.len
  obtain ⟨-, -, hsA, -⟩ := h.low
  have hps : p < w.heap.size := (h.pl.lt p rfl).2
  have HL := Lib.hid hl
  have HS := Lib.hid hS
  obtain ⟨hidn, hpl⟩ := hI.place
  have hq0 := hI.lt
  have HI : Hid (OnWay n S id False P T q0 ∧ Up (vs S T) q0) := Lib.hid ⟨hI, hU⟩
  have HH := Lib.hid h
  have b1 : (id : Int) < (n : Int) := by omega
  have b2 : 0 ≤ (id : Int) := by omega
  have b3 : (q0 : Int) < 1048576 := by omega
  have HPL := Lib.hid hpl
  clear hS hI hU hl h hpl hcm hmc
  go_enter Try.func19, Try.ntmps19
  go_wp2_with fail
  go_at_call 25; refine (order_any A B g s p n _ S P T _ HH.out).mono ?_; rintro e w1 ⟨rfl, ho, hb⟩
  have hp1 := HH.out.on hb
  have HP1 := Lib.hid hp1
  have HO := Lib.hid ho
  have HB := Lib.hid (off_of_below (t := t) (p := p) hb)
  obtain ⟨-, c1, -, -⟩ := hp1.cG
  obtain ⟨x1, -⟩ := hp1.cP hidn
  rw [HPL.out] at x1
  clear hp1 ho hb HH
  go_wp2_with fail
  go_loopw [5] (fun a wr => ∃ (q : Nat) (P' T' : List Nat), a = .int .i64 q ∧ Hid (OnWay n S id False P' T' q ∧ Up (vs S T') q ∧ Same P P' ∧ T'.length = T.length) ∧ Hid (Hp A B wr g s p (.slice (some ⟨t, 0, none⟩) m c) n S P' T' ∧ Off t p w wr ∧ One wr w.heap.size (.slice (some ⟨s, 0, none⟩) n n))) (fun a _ => m - (intOf a).toNat)
  case atStart => exact ⟨q0, P, T, by go_num, Lib.hid ⟨HI.out.1, HI.out.2, Same.refl _, rfl⟩, Lib.hid ⟨HP1.out, HB.out, HO.out⟩⟩
  case round =>
    clear HP1 HO HB c1 x1 b1 b2 b3
    obtain ⟨q, P', T', rfl, HQ, HW⟩ := hrel
    obtain ⟨wo, rfl⟩ : ∃ wo : World, wo = wr := ⟨_, rfl⟩
    have hTl : T'.length = m := HW.out.1.len.1
    have hqm : q < m := by have a := HQ.out.1.lt; omega
    have HTL := Lib.hid hTl
    have HB0 := Lib.hid (Best.start (vs S T') hqm)
    have hq2 : q ≤ 1048576 := by omega
    clear hTl
    go_wp2_with fail
    go_loopw [6, 7] (fun a b wr => ∃ f bl : Nat, a = .int .i64 f ∧ b = .int .i64 bl ∧ bl ≤ 2 * q + 3 ∧ Hid (Best m (vs S T') q bl f) ∧ Hid (Hp A B wr g s p (.slice (some ⟨t, 0, none⟩) m c) n S P' T' ∧ Off t p w wr ∧ One wr w.heap.size (.slice (some ⟨s, 0, none⟩) n n))) (fun _ b _ => 2 * q + 3 - (intOf b).toNat)
    case atStart => exact ⟨q, 2 * q + 1, rfl, by go_num, by omega, HB0, HW⟩
    case round =>
      clear HB0 HW
      obtain ⟨f, bl, rfl, rfl, hb3, HF, HW⟩ := hrel
      obtain ⟨wi, rfl⟩ : ∃ wi : World, wi = wr := ⟨_, rfl⟩
      obtain ⟨e1, e2, e3⟩ := HW.out
      obtain ⟨-, -, c2, -⟩ := e1.cG
      have hfm := HF.out.fm
      by_cases hc : bl ≤ 2 * q + 2 ∧ bl < m
      · obtain ⟨k1, k2⟩ := hc
        obtain ⟨x1, -⟩ := e1.cT (i := bl) (by rw [HTL.out]; exact k2)
        obtain ⟨x2, -⟩ := e1.cT (i := f) (by rw [HTL.out]; exact hfm)
        obtain ⟨a, ha⟩ : ∃ a, a = T'.getD bl 0 := ⟨_, rfl⟩
        obtain ⟨b, hb⟩ : ∃ b, b = T'.getD f 0 := ⟨_, rfl⟩
        have han : a < n := by rw [ha]; exact (HQ.out.1.wf.at_ bl (by rw [HTL.out]; exact k2)).1
        have hbn : b < n := by rw [hb]; exact (HQ.out.1.wf.at_ f (by rw [HTL.out]; exact hfm)).1
        rw [← ha] at x1
        rw [← hb] at x2
        have hah : ah S a b = decide (vs S T' bl < vs S T' f) := by rw [ha, hb]; rfl
        have d1 : (bl : Int) < (m : Int) := by omega
        have d2 : 0 ≤ (bl : Int) := by omega
        have d3 : (f : Int) < (m : Int) := by omega
        have d4 : 0 ≤ (f : Int) := by omega
        have g1 : decide ((bl : Int) ≤ 2 * (q : Int) + 2) = true := by simp; omega
        have HE1 := Lib.hid e1
        have HE2 := Lib.hid e2
        have HE3 := Lib.hid e3
        clear e1 e2 e3 ha hb
        by_cases hlt : vs S T' bl < vs S T' f
        · have HN := Lib.hid (HF.out.take k2 k1 hlt)
          have HAH : Hid (ah S a b = true) := Lib.hid (by rw [hah]; exact decide_eq_true hlt)
          clear hah hlt
          go_wp2_with fail
          go_quiet ((first | (go_at_call 30; exact Calls.quiet_of (ahead_of A B g s p n w.heap.size a b _ S P' T' _ HAH.out (HE1.out.drewN _) HS.out (HE3.out.drewN _) han hbn hn)) | fail))
          have HX : Hid (Hp A B (wi.drewN nq) g s p (.slice (some ⟨t, 0, none⟩) m c) n S P' T' ∧ Off t p w (wi.drewN nq) ∧ One (wi.drewN nq) w.heap.size (.slice (some ⟨s, 0, none⟩) n n)) := Lib.hid ⟨HE1.out.drewN nq, HE2.out.drewN nq, HE3.out.drewN nq⟩
          go_wp2_with fail
          go_roundw
          case rel => exact ⟨bl, bl + 1, rfl, by go_num, by omega, HN, HX⟩
          case measure => simp [intOf]; omega
        · have HN := Lib.hid (HF.out.keep k1 (Nat.le_of_not_lt hlt))
          have HAH : Hid (ah S a b = false) := Lib.hid (by rw [hah]; exact decide_eq_false hlt)
          clear hah hlt
          go_wp2_with fail
          go_quiet ((first | (go_at_call 30; exact Calls.quiet_of (ahead_of A B g s p n w.heap.size a b _ S P' T' _ HAH.out (HE1.out.drewN _) HS.out (HE3.out.drewN _) han hbn hn)) | fail))
          have HX : Hid (Hp A B (wi.drewN nq) g s p (.slice (some ⟨t, 0, none⟩) m c) n S P' T' ∧ Off t p w (wi.drewN nq) ∧ One (wi.drewN nq) w.heap.size (.slice (some ⟨s, 0, none⟩) n n)) := Lib.hid ⟨HE1.out.drewN nq, HE2.out.drewN nq, HE3.out.drewN nq⟩
          go_wp2_with fail
          go_roundw
          case rel => exact ⟨f, bl + 1, rfl, by go_num, by omega, HN, HX⟩
          case measure => simp [intOf]; omega
      · have HN := Lib.hid (HF.out.end_ hc)
        have HFO := Lib.hid HF.out.or_
        have HE1 := Lib.hid e1
        have HE2 := Lib.hid e2
        have HE3 := Lib.hid e3
        have HC := Lib.hid hc
        clear e1 e2 e3 hc
        by_cases k1 : bl ≤ 2 * q + 2
        · have g1 : decide ((bl : Int) ≤ 2 * (q : Int) + 2) = true := by simp; omega
          have g2 : decide (bl < m) = false := by have := HC.out; simp; omega
          by_cases hfq : f = q
          · have t1 : ((f : Int) == (q : Int)) = true := by simp; omega
            have HE : Hid (Sunk A B g s p t m c n S P T w wi) := Lib.hid (by
              obtain ⟨a1, a2, a3, a4⟩ := HQ.out
              have hN := HN.out
              rw [hfq] at hN
              exact ⟨P', T', HE1.out, a1.done a2 (by rw [HTL.out]; exact hN), a3, a4, HE2.out⟩)
            clear hfq
            go_wp2_with fail
            refine bodyPost_ret (results_none rfl _ _ _) rfl ?_
            exact ⟨rfl, HE.out⟩
          · have t1 : ((f : Int) == (q : Int)) = false := by simp; omega
            have hff : 0 < f ∧ (f - 1) / 2 = q ∧ vs S T' f < vs S T' q := by
              rcases HFO.out with e | e
              · exact absurd e hfq
              · exact e
            have HR := Lib.hid (HQ.out.1.sink HQ.out.2.1 hff.1 (by rw [HTL.out]; exact hfm) hff.2.1 hff.2.2 (by rw [HTL.out]; exact HN.out))
            have hqf : q < f := by have := hff.1; have := hff.2.1; omega
            clear hff hfq
            go_wp2_with fail
            go_at_call 21; refine (swap_any A B g s p t m c n q f S P' T' _ HE1.out HQ.out.1.wf (by rw [HTL.out]; exact hqm) (by rw [HTL.out]; exact hfm) hn hm).mono ?_; rintro e w3 ⟨rfl, hp3, hoff⟩
            have HX : Hid (Hp A B w3 g s p (.slice (some ⟨t, 0, none⟩) m c) n S (swP P' T' q f) (swT T' q f) ∧ Off t p w w3 ∧ One w3 w.heap.size (.slice (some ⟨s, 0, none⟩) n n)) :=
              Lib.hid ⟨hp3, HE2.out.trans hoff, hoff.one HE3.out (by omega) (by omega)⟩
            clear hp3 hoff
            go_wp2_with fail
            go_roundw
            case rel => exact ⟨f, swP P' T' q f, swT T' q f, rfl, Lib.hid ⟨HR.out.1, HR.out.2.1, HQ.out.2.2.1.trans HR.out.2.2, by rw [swT_len]; exact HQ.out.2.2.2⟩, HX⟩
            case measure => simp [intOf]; omega
        · have g1 : decide ((bl : Int) ≤ 2 * (q : Int) + 2) = false := by simp; omega
          clear k1
          by_cases hfq : f = q
          · have t1 : ((f : Int) == (q : Int)) = true := by simp; omega
            have HE : Hid (Sunk A B g s p t m c n S P T w wi) := Lib.hid (by
              obtain ⟨a1, a2, a3, a4⟩ := HQ.out
              have hN := HN.out
              rw [hfq] at hN
              exact ⟨P', T', HE1.out, a1.done a2 (by rw [HTL.out]; exact hN), a3, a4, HE2.out⟩)
            clear hfq
            go_wp2_with fail
            refine bodyPost_ret (results_none rfl _ _ _) rfl ?_
            exact ⟨rfl, HE.out⟩
          · have t1 : ((f : Int) == (q : Int)) = false := by simp; omega
            have hff : 0 < f ∧ (f - 1) / 2 = q ∧ vs S T' f < vs S T' q := by
              rcases HFO.out with e | e
              · exact absurd e hfq
              · exact e
            have HR := Lib.hid (HQ.out.1.sink HQ.out.2.1 hff.1 (by rw [HTL.out]; exact hfm) hff.2.1 hff.2.2 (by rw [HTL.out]; exact HN.out))
            have hqf : q < f := by have := hff.1; have := hff.2.1; omega
            clear hff hfq
            go_wp2_with fail
            go_at_call 21; refine (swap_any A B g s p t m c n q f S P' T' _ HE1.out HQ.out.1.wf (by rw [HTL.out]; exact hqm) (by rw [HTL.out]; exact hfm) hn hm).mono ?_; rintro e w3 ⟨rfl, hp3, hoff⟩
            have HX : Hid (Hp A B w3 g s p (.slice (some ⟨t, 0, none⟩) m c) n S (swP P' T' q f) (swT T' q f) ∧ Off t p w w3 ∧ One w3 w.heap.size (.slice (some ⟨s, 0, none⟩) n n)) :=
              Lib.hid ⟨hp3, HE2.out.trans hoff, hoff.one HE3.out (by omega) (by omega)⟩
            clear hp3 hoff
            go_wp2_with fail
            go_roundw
            case rel => exact ⟨f, swP P' T' q f, swT T' q f, rfl, Lib.hid ⟨HR.out.1, HR.out.2.1, HQ.out.2.2.1.trans HR.out.2.2, by rw [swT_len]; exact HQ.out.2.2.2⟩, HX⟩
            case measure => simp [intOf]; omega
end Go.Proofs.Ytpcpjpcejcgodaa.heap
