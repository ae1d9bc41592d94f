/- The walk of heap's Pop. -/
import Derived.Test.YtpcpjpcejcgodaaK7
namespace Go.Proofs.Ytpcpjpcejcgodaa.heap
open Go.RowKit
open Go.Proofs.Ytpcpjpcejcgodaa.fns Go.Proofs.Ytpcpjpcejcgodaa.hpf Go.Proofs.Ytpcpjpcejcgodaa.ints

theorem ncells_take (T : List Nat) (e : Nat) : (ncells T).take e = ncells (T.take e) := by unfold ncells; rw [List.map_take]
/-- a row that is cut behind its first e cells -/
theorem own_cut {w : World} {B t e m c : Nat} {ty : TypeId} {xs : List Value} (h : w.ownsRow B ty 1 (.slice (some ⟨t, 0, none⟩) m c) m xs) (he : e ≤ m) :
    w.ownsRow B ty 1 (.slice (some ⟨t, 0, none⟩) e c) e (xs.take e) := by
  obtain ⟨h1, h2⟩ := h
  refine ⟨by rw [List.length_take]; omega, ?_⟩
  rcases h2 with ⟨x, -⟩ | ⟨g, cap, cur, x, y1, y2, y3, y4, y5, y6⟩
  · cases x
  · cases x
    refine .inr ⟨t, c, cur, rfl, y1, y2, by omega, y4, y5, ?_⟩
    rw [← y6, List.take_take]
    congr 1
    omega
/-- how Pop leaves things -/
def Popped (A B g s p n x : Nat) (S P T : List Nat) (w w' : World) : Prop :=
  ∃ tv' P' T', Hp A B w' g s p tv' n S P' T' ∧ Hok n S P' T' ∧ T'.length + 1 = T.length ∧ Same (P.set x 0) P' ∧ Below A w w'
set_option maxHeartbeats 3200000 in
theorem Pop_any (A B g s p n x e : Nat) (tv : Value) (S P T : List Nat) (w : World) (h : Hp A B w g s p tv n S P T) (hS : AllW S) (hok : Hok n S P T) (hT : T.length = e + 1) (hx : T.getD 0 0 = x) (hTn : T.length ≤ n) (hn : n ≤ 1048576) :
    Calls Try.prog 9 #[.pointer (some ⟨g, 0, none⟩)] w fun r w' => r = .returned (.tuple #[.int .i64 x, .bool true]) ∧ Popped A B g s p n x S P T w w' := by
  have hlow := h.low
  obtain ⟨t, c, rfl⟩ := h.form (by omega)
  have hBt := h.len.2.2.2.1
  have hc := h.len.2
  unfold maxLen at hc
  obtain ⟨-, -, c2, -⟩ := h.cG
  obtain ⟨x1, -⟩ := h.cT (i := 0) (by omega)
  have hxn := (hok.wf.at_ 0 (by omega)).1
  rw [hx] at x1 hxn
  obtain ⟨m, hm⟩ : ∃ m, m = T.length := ⟨_, rfl⟩
  rw [← hm] at h c2 hTn hT hc
  have hme : 0 < m := by omega
  have HME := Lib.hid hT
  have HM := Lib.hid hm
  have HH := Lib.hid h
  have HS := Lib.hid hS
  have HK := Lib.hid hok
  have HX := Lib.hid hx
  have HE0 : Hid ((m : Int) - 1 = (e : Int)) := Lib.hid (by omega)
  have t0 : ((m : Int) == 0) = false := by simp; omega
  have hem : e < m := by omega
  have b1 : 0 < (m : Int) := by omega
  clear h hS hok hx hm hT
  go_enter Try.func9, Try.ntmps9
  go_wp2_with fail
  go_at_call 12; refine (Len_any A B g s p n _ S P T _ HH.out).mono ?_; rintro r w' ⟨rfl, rfl⟩
  rw [← HM.out]
  go_upto_region 3 with fail
  go_cut [4, 5] (fun s4 s5 wx => s4 = .int .i64 (x : Int) ∧ s5 = .int .i64 (e : Int) ∧ Hid (∃ q, wx = w.drewN q))
  case first =>
    go_quiet (fail)
    go_wp2_with fail
    go_meet
    exact ⟨rfl, by rw [HE0.out], Lib.hid ⟨_, rfl⟩⟩
  case rest =>
    obtain ⟨rfl, rfl, hq⟩ := hcut
    obtain ⟨q, hw⟩ := hq.out
    obtain ⟨W, rfl⟩ : ∃ W : World, W = wc := ⟨_, rfl⟩
    have HHW : Hid (Hp A B W g s p (.slice (some ⟨t, 0, none⟩) m c) n S P T ∧ Below A w W) := Lib.hid (by rw [hw]; exact ⟨HH.out.drewN q, below_drewN (Below.refl _ _) q⟩)
    clear hq hw c2 x1 t0 HH
    go_wp2_with fail
    go_at_call 21; refine (swap_any A B g s p t m c n 0 e S P T _ HHW.out.1 HK.out.wf (by rw [← HM.out]; exact hme) (by rw [← HM.out]; exact hem) hn hTn).mono ?_; rintro r w1 ⟨rfl, hp1, hoff⟩
    obtain ⟨P1, hP1⟩ : ∃ P1, P1 = swP P T 0 e := ⟨_, rfl⟩
    obtain ⟨T1, hT1⟩ : ∃ T1, T1 = swT T 0 e := ⟨_, rfl⟩
    rw [← hP1, ← hT1] at hp1
    have htl : (T1.take e).length = e := by rw [List.length_take, hT1, swT_len, ← HM.out]; omega
    have hbel := HHW.out.2.trans (hoff.below (A := A) (by omega) (by omega) (by have := HHW.out.2.size; omega))
    have hrow := hp1.tr
    rw [hp1.len.1] at hrow
    have hrow := own_cut hrow (Nat.le_of_lt hem)
    rw [ncells_take] at hrow
    have hp2 := hp1.setO (World.grownBy.refl w1 none) (.inl rfl) (T' := T1.take e) (tv' := .slice (some ⟨t, 0, none⟩) e c) (by rw [htl]; exact hrow)
    have HP2 := Lib.hid hp2
    have HB2 : Hid (Below A w (w1.setCell ⟨g, 2, none⟩ (.slice (some ⟨t, 0, none⟩) e c))) := Lib.hid (hbel.setCell (p := ⟨g, 2, none⟩) (by show A ≤ g; omega) _)
    obtain ⟨-, -, c2, f2⟩ := hp1.cG
    have HP1 := Lib.hid hP1
    have HT1 := Lib.hid hT1
    have HTL := Lib.hid htl
    clear hP1 hT1 htl hbel hrow hp2 hp1 hoff HHW
    go_upto_region 5 with fail
    go_cut [] (fun wx => Hid (Hp A B wx g s p (.slice (some ⟨t, 0, none⟩) e c) n S P1 (T1.take e) ∧ Below A w wx))
    case first =>
      go_wp2_with fail
      go_meet
      exact ⟨HP2.out, HB2.out⟩
    case rest =>
      clear HP2 HB2 c2 f2
      obtain ⟨hp, hb⟩ := hcut.out
      obtain ⟨W, rfl⟩ : ∃ W : World, W = wc := ⟨_, rfl⟩
      have HP2 := Lib.hid (hp.setP x 0)
      have HB2 : Hid (Below A w (W.setCell ⟨p, x, none⟩ (.int .i64 ((0 : Nat) : Int)))) := Lib.hid (hb.setCell (p := ⟨p, x, none⟩) (by show A ≤ p; omega) _)
      obtain ⟨-, c1, -, -⟩ := hp.cG
      obtain ⟨x2, f2⟩ := hp.cP hxn
      obtain ⟨o1, ho1⟩ : ∃ o1, o1 = ((P1.getD x 0 : Nat) : Int) := ⟨_, rfl⟩
      rw [← ho1] at x2
      have d1 : (x : Int) < (n : Int) := by omega
      have d2 : 0 ≤ (x : Int) := by omega
      clear hp hb hcut ho1
      go_upto_region 6 with fail
      go_cut [] (fun wx => Hid (Hp A B wx g s p (.slice (some ⟨t, 0, none⟩) e c) n S (P1.set x 0) (T1.take e) ∧ Below A w wx))
      case first =>
        go_wp2_with fail
        go_meet
        exact ⟨HP2.out, HB2.out⟩
      case rest =>
        clear HP2 HB2 c1 x2 f2 d1 d2
        obtain ⟨W, rfl⟩ : ∃ W : World, W = wc := ⟨_, rfl⟩
        have HSM : Hid (Same (P.set x 0) (P1.set x 0)) := Lib.hid (by
          rw [HP1.out]
          exact same_set HK.out.wf.len (by rw [swP_len]; exact HK.out.wf.len) hxn (wf_sw HK.out.wf (by rw [← HM.out]; exact hme) (by rw [← HM.out]; exact hem)).2)
        by_cases h0 : e = 0
        · have HE : Hid (Popped A B g s p n x S P T w W) := Lib.hid (by
            obtain ⟨hp, hb⟩ := hcut.out
            have hk := pop_none HK.out (by rw [← HM.out, HME.out, h0])
            rw [h0] at HP1 HT1
            rw [HX.out, ← HP1.out, ← HT1.out] at hk
            rw [h0] at hp
            exact ⟨_, _, _, hp, hk, by rw [← HM.out, HME.out, h0]; simp, HSM.out, hb⟩)
          have t1 : decide (0 < e) = false := by simp; omega
          clear h0 hcut
          go_wp2_with fail
          go_ret2
          exact ⟨rfl, HE.out⟩
        · have t1 : decide (0 < e) = true := by simp; omega
          have HW : Hid (OnWay n S ((T1.take e).getD 0 0) False (P1.set x 0) (T1.take e) 0 ∧ Up (vs S (T1.take e)) 0) := Lib.hid (by
            have hk := pop_way HK.out (by rw [← HM.out]; exact HME.out) (show 0 < e by omega)
            rw [HX.out, ← HP1.out, ← HT1.out] at hk
            exact hk)
          obtain ⟨hp, hb⟩ := hcut.out
          obtain ⟨-, -, c2, -⟩ := hp.cG
          obtain ⟨x1, -⟩ := hp.cT (i := 0) (by rw [HTL.out]; omega)
          obtain ⟨y, hy⟩ : ∃ y, y = (T1.take e).getD 0 0 := ⟨_, rfl⟩
          rw [← hy] at x1 HW
          have HP := Lib.hid hp
          have HB := Lib.hid hb
          have d1 : 0 < (e : Int) := by omega
          clear h0 hcut hp hb hy
          go_wp2_with fail
          go_at_call 19; refine (sink_any A B g s p t e c n y 0 S (P1.set x 0) (T1.take e) _ HP.out HS.out HW.out.1 HW.out.2 hn (by omega)).mono ?_; rintro r w3 ⟨rfl, hr⟩
          have HE : Hid (Popped A B g s p n x S P T w w3) := Lib.hid (by
            obtain ⟨P'', T'', k1, k2, k3, k4, k5⟩ := hr
            exact ⟨_, P'', T'', k1, k2, by rw [k4, HTL.out, ← HM.out, HME.out], HSM.out.trans k3, HB.out.trans (k5.below (by omega) (by omega) (by have := HB.out.size; omega))⟩)
          clear hr
          go_wp2_with fail
          go_ret2
          exact ⟨rfl, HE.out⟩
end Go.Proofs.Ytpcpjpcejcgodaa.heap
