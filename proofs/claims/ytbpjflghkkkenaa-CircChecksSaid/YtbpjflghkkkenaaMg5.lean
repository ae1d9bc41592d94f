import Derived.Test.YtbpjflghkkkenaaMg4
import Derived.Test.YtbpjflghkkkenaaProg
import Derived.WalkKit
import Derived.Handy
import Derived.Outline
import Derived.OwnWalk
import Derived.Below
import Derived.WalkSmall
import Derived.Lib.Hide
import Derived.Lib.SmallJoins
import Derived.Deep.AppendLies
import Derived.Deep.DeepCutAuto
import Derived.Deep.QuietTactic
import Derived.BigQuiet
import Derived.BigRegion
/- The walks of heap's Push, Set and Pop. -/
namespace Go.Proofs.Ytbpjflghkkkenaa.heap
open Go.RowKit
open Go.Proofs.Ytbpjflghkkkenaa.fns Go.Proofs.Ytbpjflghkkkenaa.hpf Go.Proofs.Ytbpjflghkkkenaa.ints

theorem ncells_snoc (T : List Nat) (x : Nat) : ncells T ++ [Value.int .i64 (x : Int)] = ncells (T ++ [x]) := by simp [ncells]
theorem one_cell (x : Nat) : ∀ u ∈ ([.int .i64 (x : Int)] : List Value), u.oneCell' = true := by
  intro u hu; simp at hu; subst hu; rfl
theorem news1 (w : World) (x : Value) (t : TypeId) : ∀ j u, ([x] : List Value)[j]? = some u → (w.alloc (.cells #[x] t)).cell? ((⟨w.heap.size, 0, none⟩ : Addr).add j) = some u := by
  intro j u hj
  match j, hj with
  | 0, hj => simp at hj; subst hj; simp [Addr.add]
/-- how Push leaves things -/
def Pushed (A B g s p n x : Nat) (S P T : List Nat) (w w' : World) : Prop :=
  ∃ tv' P' T', Hp A B w' g s p tv' n S P' T' ∧ Hok n S P' T' ∧ T'.length = T.length + 1 ∧ Same (P.set x (T.length + 1)) P' ∧ Below A w w'
theorem apart_own {v : Value} {w : World} {B n : Nat} {e : TypeId} {xs : List Value} (h : w.ownsRow B e 1 v n xs) : v.ownBlock = none ∨ ∃ k, v.ownBlock = some k ∧ B ≤ k := by
  cases hv : v.ownBlock with
  | none => exact .inl rfl
  | some k => exact .inr ⟨k, rfl, (h.lt k hv).1⟩
theorem below_alloc1 (w : World) (o : Obj) (A : Nat) (h : A ≤ w.heap.size) : Below A w (w.alloc o) := (Below.refl _ _).alloc h o
set_option maxHeartbeats 1600000 in
theorem Push_any (A B g s p n x : Nat) (tv : Value) (S P T : List Nat) (w : World) (h : Hp A B w g s p tv n S P T) (hS : AllW S) (hok : Hok n S P T) (hx : x < n) (h0 : P.getD x 0 = 0) (hT : T.length < n) (hn : n ≤ 1048576) :
    Calls Try.prog 79 #[.pointer (some ⟨g, 0, none⟩), .int .i64 x] w fun e w' => e = .returned (.int .i64 0) ∧ Pushed A B g s p n x S P T w w' := by
  obtain ⟨i0, hi, hz0, hz1, hz2⟩ := info_parts infoInt
  have hlow := h.low
  have HH := Lib.hid h
  have HS := Lib.hid hS
  have HK := Lib.hid hok
  have HA1 : Hid (Hp A B (w.alloc (.cells #[.int .i64 (x : Int)] 3)) g s p tv n S P T) := Lib.hid (h.on ((Below.refl _ _).alloc (Nat.le_refl _) _))
  obtain ⟨-, -, c2, -⟩ := h.cG
  have HHas : Hid (decide (0 < P.getD x 0) = false) := Lib.hid (by rw [h0]; rfl)
  have H0 := Lib.hid h0
  clear h hS hok h0
  go_enter Try.func79, Try.ntmps79
  go_wp2_with fail
  go_at_call 83; refine (known_any A B g s p n x _ S P T _ HH.out hx).mono ?_; rintro e w' ⟨rfl, rfl⟩
  go_wp2_with fail
  go_at_call 84; refine (Has_of A B g s p n x _ S P T _ HHas.out HH.out hx).mono ?_; rintro e w' ⟨rfl, rfl⟩
  go_upto_region 5 with fail
  go_cut [] (fun wx => Hid (∃ tv', Hp A B wx g s p tv' n S P (T ++ [x]) ∧ Below A w wx))
  case first =>
    go_wp2_with (at_builtin; refine wpList_append_lies _ rfl _ _ 22 rfl B 3 i0 (.int .i64 0) 1 8 Try.underlying22 hi hz0 hz1 hz2 rfl (by decide) tv T.length (ncells T) rfl HA1.out.tr ⟨w.heap.size, 0, none⟩ 1 1 [.int .i64 (x : Int)] rfl rfl (news1 _ _ _) (one_cell x) (by decide) (by unfold maxLen; omega) (by omega) (by simp; omega) _ rfl ?_)
    intro t c w1 hown hgrow hat hlt
    rw [ncells_snoc, show T.length + 1 = (T ++ [x]).length by simp] at hown
    have hN0 := HA1.out.setO hgrow (apart_own HA1.out.tr) hown
    rw [List.length_append, List.length_singleton] at hN0
    have HN := Lib.hid hN0
    clear hN0
    have HB : Hid (Below A w (w1.setCell ⟨g, 2, none⟩ (.slice (some ⟨t, 0, none⟩) (T.length + 1) c))) := Lib.hid
      ((((Below.refl A w).alloc (by omega) _).grown hgrow (by simp; omega) (fun k hk => by
        rcases apart_own HA1.out.tr with e | ⟨k', e, hB⟩
        · rw [e] at hk; cases hk
        · rw [e] at hk; cases hk; omega)).setCell (p := ⟨g, 2, none⟩) (by show A ≤ g; omega) _)
    have hne : some g ≠ tv.ownBlock := by
      rcases apart_own HA1.out.tr with e | ⟨k', e, hB⟩
      · rw [e]; simp
      · rw [e]; intro x; cases x; have := HA1.out.lay; omega
    obtain ⟨-, -, d2, df⟩ := HA1.out.cG
    have hgl : g < (w.alloc (.cells #[.int .i64 (x : Int)] 3)).heap.size := by have := HA1.out.lay; omega
    have c3 := (hgrow.cell_far ⟨g, 2, none⟩ hgl hne).trans d2
    have f3 := (hgrow.frozen_far ⟨g, 2, none⟩ hgl hne).trans df
    clear hown hgrow hat hne d2 df c2
    go_wp2_with fail
    go_meet
    exact ⟨_, HN.out, HB.out⟩
  case rest =>
    clear HA1 c2 HH HHas
    obtain ⟨tv', hp, hb⟩ := hcut.out
    obtain ⟨W, rfl⟩ : ∃ W : World, W = wc := ⟨_, rfl⟩
    obtain ⟨t, c, rfl⟩ := hp.form (by simp)
    obtain ⟨m, hm⟩ : ∃ m, m = (T ++ [x]).length := ⟨_, rfl⟩
    have hm1 : m = T.length + 1 := by rw [hm]; simp
    rw [← hm] at hp
    have HM := Lib.hid hm1
    have hp1 := hp.setP x m
    have HP1 := Lib.hid hp1
    have HB := Lib.hid hb
    have HBt := Lib.hid hp.len.2.2.2
    obtain ⟨-, c1, c2, -⟩ := hp.cG
    obtain ⟨x2, f2⟩ := hp.cP hx
    obtain ⟨o1, ho1⟩ : ∃ o1, o1 = ((P.getD x 0 : Nat) : Int) := ⟨_, rfl⟩
    rw [← ho1] at x2
    have d1 : (x : Int) < (n : Int) := by omega
    have d2 : 0 ≤ (x : Int) := by omega
    have hmn : m ≤ n := by omega
    clear ho1 hp hb hm hm1 hp1 hcut
    go_upto_region 6 with fail
    go_cut [] (fun wx => Hid (Hp A B wx g s p (.slice (some ⟨t, 0, none⟩) m c) n S (P.set x m) (T ++ [x]) ∧ Below A w wx))
    case first =>
      have HB1 : Hid (Below A w (W.setCell ⟨p, x, none⟩ (.int .i64 (m : Int)))) := Lib.hid (HB.out.setCell (p := ⟨p, x, none⟩) (by show A ≤ p; omega) _)
      go_region
      go_wp2_with fail
      go_meet
      exact ⟨HP1.out.drewN 1, HB1.out.drew⟩
    case rest =>
      clear HP1 x2 f2 c1 c2 HB d1 d2
      obtain ⟨hp, hb⟩ := hcut.out
      obtain ⟨W, rfl⟩ : ∃ W : World, W = wc := ⟨_, rfl⟩
      have HP := Lib.hid hp
      have HB := Lib.hid hb
      have HW := Lib.hid (push_way HK.out hx H0.out)
      clear hp hb hcut
      go_wp2_with fail
      go_at_call 85; refine (rise_any A B g s p t m c n x T.length S (P.set x m) (T ++ [x]) True _ HP.out HS.out (by rw [HM.out]; exact HW.out) hn hmn).mono ?_; rintro e w2 ⟨rfl, hr⟩
      have HE : Hid (Pushed A B g s p n x S P T w w2) := Lib.hid (by
        obtain ⟨P', T', q, e1, e2, e3, e4, e5, e6⟩ := hr
        refine ⟨_, P', T', e1, e2.hok trivial e3, by rw [e5]; simp, by rw [← HM.out]; exact e4, HB.out.trans (e6.below (by have := HBt.out; omega) (by omega) (by have := HB.out.size; omega))⟩)
      clear hr
      go_wp2_with fail
      go_ret
      exact ⟨rfl, HE.out⟩
theorem store_float (w : World) (a : Addr) (n : Nat) : (store a (.float .f64 n)).run Try.prog w = stored Try.prog w a (.float .f64 n) Mode.plain := run_store Try.prog w a _ _ rfl
/-- how Set leaves things -/
def Setted (A B g s p n x b : Nat) (tv : Value) (S P T : List Nat) (w w' : World) : Prop :=
  ∃ P' T', Hp A B w' g s p tv n (S.set x b) P' T' ∧ Hok n (S.set x b) P' T' ∧ Same P P' ∧ T'.length = T.length ∧ Below A w w'
end Go.Proofs.Ytbpjflghkkkenaa.heap

/- The walk of heap's Pop. -/
namespace Go.Proofs.Ytbpjflghkkkenaa.heap
open Go.RowKit
open Go.Proofs.Ytbpjflghkkkenaa.fns Go.Proofs.Ytbpjflghkkkenaa.hpf Go.Proofs.Ytbpjflghkkkenaa.ints

theorem ncells_take (T : List Nat) (e : Nat) : (ncells T).take e = ncells (T.take e) := by unfold ncells; rw [List.map_take]
/-- a row that is cut behind its first e cells -/
theorem own_cut {w : World} {B t e m c : Nat} {ty : TypeId} {xs : List Value} (h : w.ownsRow B ty 1 (.slice (some ⟨t, 0, none⟩) m c) m xs) (he : e ≤ m) :
    w.ownsRow B ty 1 (.slice (some ⟨t, 0, none⟩) e c) e (xs.take e) := by
  obtain ⟨h1, h2⟩ := h
  refine ⟨by rw [List.length_take]; omega, ?_⟩
  rcases h2 with ⟨x, -⟩ | ⟨g, cap, cur, x, y1, y2, y3, y4, y5, y6⟩
  · cases x
  · cases x
    refine .inr ⟨t, c, cur, rfl, y1, y2, by omega, y4, y5, ?_⟩
    rw [← y6, List.take_take]
    congr 1
    omega
/-- how Pop leaves things -/
def Popped (A B g s p n x : Nat) (S P T : List Nat) (w w' : World) : Prop :=
  ∃ tv' P' T', Hp A B w' g s p tv' n S P' T' ∧ Hok n S P' T' ∧ T'.length + 1 = T.length ∧ Same (P.set x 0) P' ∧ Below A w w'
set_option maxHeartbeats 3200000 in
theorem Pop_any (A B g s p n x e : Nat) (tv : Value) (S P T : List Nat) (w : World) (h : Hp A B w g s p tv n S P T) (hS : AllW S) (hok : Hok n S P T) (hT : T.length = e + 1) (hx : T.getD 0 0 = x) (hTn : T.length ≤ n) (hn : n ≤ 1048576) :
    Calls Try.prog 75 #[.pointer (some ⟨g, 0, none⟩)] w fun r w' => r = .returned (.tuple #[.int .i64 x, .bool true]) ∧ Popped A B g s p n x S P T w w' := by
  have hlow := h.low
  obtain ⟨t, c, rfl⟩ := h.form (by omega)
  have hBt := h.len.2.2.2.1
  have hc := h.len.2
  unfold maxLen at hc
  obtain ⟨-, -, c2, -⟩ := h.cG
  obtain ⟨x1, -⟩ := h.cT (i := 0) (by omega)
  have hxn := (hok.wf.at_ 0 (by omega)).1
  rw [hx] at x1 hxn
  obtain ⟨m, hm⟩ : ∃ m, m = T.length := ⟨_, rfl⟩
  rw [← hm] at h c2 hTn hT hc
  have hme : 0 < m := by omega
  have HME := Lib.hid hT
  have HM := Lib.hid hm
  have HH := Lib.hid h
  have HS := Lib.hid hS
  have HK := Lib.hid hok
  have HX := Lib.hid hx
  have HE0 : Hid ((m : Int) - 1 = (e : Int)) := Lib.hid (by omega)
  have t0 : ((m : Int) == 0) = false := by simp; omega
  have hem : e < m := by omega
  have b1 : 0 < (m : Int) := by omega
  clear h hS hok hx hm hT
  go_enter Try.func75, Try.ntmps75
  go_wp2_with fail
  go_at_call 80; refine (Len_any A B g s p n _ S P T _ HH.out).mono ?_; rintro r w' ⟨rfl, rfl⟩
  rw [← HM.out]
  go_upto_region 3 with fail
  go_cut [4, 5] (fun s4 s5 wx => s4 = .int .i64 (x : Int) ∧ s5 = .int .i64 (e : Int) ∧ Hid (∃ q, wx = w.drewN q))
  case first =>
    go_quiet (fail)
    go_wp2_with fail
    go_meet
    exact ⟨rfl, by rw [HE0.out], Lib.hid ⟨_, rfl⟩⟩
  case rest =>
    obtain ⟨rfl, rfl, hq⟩ := hcut
    obtain ⟨q, hw⟩ := hq.out
    obtain ⟨W, rfl⟩ : ∃ W : World, W = wc := ⟨_, rfl⟩
    have HHW : Hid (Hp A B W g s p (.slice (some ⟨t, 0, none⟩) m c) n S P T ∧ Below A w W) := Lib.hid (by rw [hw]; exact ⟨HH.out.drewN q, below_drewN (Below.refl _ _) q⟩)
    clear hq hw c2 x1 t0 HH
    go_wp2_with fail
    go_at_call 81; refine (swap_any A B g s p t m c n 0 e S P T _ HHW.out.1 HK.out.wf (by rw [← HM.out]; exact hme) (by rw [← HM.out]; exact hem) hn hTn).mono ?_; rintro r w1 ⟨rfl, hp1, hoff⟩
    obtain ⟨P1, hP1⟩ : ∃ P1, P1 = swP P T 0 e := ⟨_, rfl⟩
    obtain ⟨T1, hT1⟩ : ∃ T1, T1 = swT T 0 e := ⟨_, rfl⟩
    rw [← hP1, ← hT1] at hp1
    have htl : (T1.take e).length = e := by rw [List.length_take, hT1, swT_len, ← HM.out]; omega
    have hbel := HHW.out.2.trans (hoff.below (A := A) (by omega) (by omega) (by have := HHW.out.2.size; omega))
    have hrow := hp1.tr
    rw [hp1.len.1] at hrow
    have hrow := own_cut hrow (Nat.le_of_lt hem)
    rw [ncells_take] at hrow
    have hp2 := hp1.setO (World.grownBy.refl w1 none) (.inl rfl) (T' := T1.take e) (tv' := .slice (some ⟨t, 0, none⟩) e c) (by rw [htl]; exact hrow)
    have HP2 := Lib.hid hp2
    have HB2 : Hid (Below A w (w1.setCell ⟨g, 2, none⟩ (.slice (some ⟨t, 0, none⟩) e c))) := Lib.hid (hbel.setCell (p := ⟨g, 2, none⟩) (by show A ≤ g; omega) _)
    obtain ⟨-, -, c2, f2⟩ := hp1.cG
    have HP1 := Lib.hid hP1
    have HT1 := Lib.hid hT1
    have HTL := Lib.hid htl
    clear hP1 hT1 htl hbel hrow hp2 hp1 hoff HHW
    go_upto_region 5 with fail
    go_cut [] (fun wx => Hid (Hp A B wx g s p (.slice (some ⟨t, 0, none⟩) e c) n S P1 (T1.take e) ∧ Below A w wx))
    case first =>
      go_wp2_with fail
      go_meet
      exact ⟨HP2.out, HB2.out⟩
    case rest =>
      clear HP2 HB2 c2 f2
      obtain ⟨hp, hb⟩ := hcut.out
      obtain ⟨W, rfl⟩ : ∃ W : World, W = wc := ⟨_, rfl⟩
      have HP2 := Lib.hid (hp.setP x 0)
      have HB2 : Hid (Below A w (W.setCell ⟨p, x, none⟩ (.int .i64 ((0 : Nat) : Int)))) := Lib.hid (hb.setCell (p := ⟨p, x, none⟩) (by show A ≤ p; omega) _)
      obtain ⟨-, c1, -, -⟩ := hp.cG
      obtain ⟨x2, f2⟩ := hp.cP hxn
      obtain ⟨o1, ho1⟩ : ∃ o1, o1 = ((P1.getD x 0 : Nat) : Int) := ⟨_, rfl⟩
      rw [← ho1] at x2
      have d1 : (x : Int) < (n : Int) := by omega
      have d2 : 0 ≤ (x : Int) := by omega
      clear hp hb hcut ho1
      go_upto_region 6 with fail
      go_cut [] (fun wx => Hid (Hp A B wx g s p (.slice (some ⟨t, 0, none⟩) e c) n S (P1.set x 0) (T1.take e) ∧ Below A w wx))
      case first =>
        go_wp2_with fail
        go_meet
        exact ⟨HP2.out, HB2.out⟩
      case rest =>
        clear HP2 HB2 c1 x2 f2 d1 d2
        obtain ⟨W, rfl⟩ : ∃ W : World, W = wc := ⟨_, rfl⟩
        have HSM : Hid (Same (P.set x 0) (P1.set x 0)) := Lib.hid (by
          rw [HP1.out]
          exact same_set HK.out.wf.len (by rw [swP_len]; exact HK.out.wf.len) hxn (wf_sw HK.out.wf (by rw [← HM.out]; exact hme) (by rw [← HM.out]; exact hem)).2)
        by_cases h0 : e = 0
        · have HE : Hid (Popped A B g s p n x S P T w W) := Lib.hid (by
            obtain ⟨hp, hb⟩ := hcut.out
            have hk := pop_none HK.out (by rw [← HM.out, HME.out, h0])
            rw [h0] at HP1 HT1
            rw [HX.out, ← HP1.out, ← HT1.out] at hk
            rw [h0] at hp
            exact ⟨_, _, _, hp, hk, by rw [← HM.out, HME.out, h0]; simp, HSM.out, hb⟩)
          have t1 : decide (0 < e) = false := by simp; omega
          clear h0 hcut
          go_wp2_with fail
          go_ret2
          exact ⟨rfl, HE.out⟩
        · have t1 : decide (0 < e) = true := by simp; omega
          have HW : Hid (OnWay n S ((T1.take e).getD 0 0) False (P1.set x 0) (T1.take e) 0 ∧ Up (vs S (T1.take e)) 0) := Lib.hid (by
            have hk := pop_way HK.out (by rw [← HM.out]; exact HME.out) (show 0 < e by omega)
            rw [HX.out, ← HP1.out, ← HT1.out] at hk
            exact hk)
          obtain ⟨hp, hb⟩ := hcut.out
          obtain ⟨-, -, c2, -⟩ := hp.cG
          obtain ⟨x1, -⟩ := hp.cT (i := 0) (by rw [HTL.out]; omega)
          obtain ⟨y, hy⟩ : ∃ y, y = (T1.take e).getD 0 0 := ⟨_, rfl⟩
          rw [← hy] at x1 HW
          have HP := Lib.hid hp
          have HB := Lib.hid hb
          have d1 : 0 < (e : Int) := by omega
          clear h0 hcut hp hb hy
          go_wp2_with fail
          go_at_call 82; refine (sink_any A B g s p t e c n y 0 S (P1.set x 0) (T1.take e) _ HP.out HS.out HW.out.1 HW.out.2 hn (by omega)).mono ?_; rintro r w3 ⟨rfl, hr⟩
          have HE : Hid (Popped A B g s p n x S P T w w3) := Lib.hid (by
            obtain ⟨P'', T'', k1, k2, k3, k4, k5⟩ := hr
            exact ⟨_, P'', T'', k1, k2, by rw [k4, HTL.out, ← HM.out, HME.out], HSM.out.trans k3, HB.out.trans (k5.below (by omega) (by omega) (by have := HB.out.size; omega))⟩)
          clear hr
          go_wp2_with fail
          go_ret2
          exact ⟨rfl, HE.out⟩
end Go.Proofs.Ytbpjflghkkkenaa.heap

/- Words on memory: a block of one cell; rows that lie apart. -/
namespace Go.Proofs.Ytbpjflghkkkenaa.mem
open Go.RowKit

theorem retI {k : IntKind} {a b : Int} (h : a = b) : Ending.returned (.int k a) = .returned (.int k b) := by rw [h]
theorem retB {a b : Bool} (h : a = b) : Ending.returned (.bool a) = .returned (.bool b) := by rw [h]
/-- a block of one cell, known whole -/
def One (w : World) (g : Nat) (x : Value) : Prop := ∃ t, w.heap[g]? = some (.cells #[x] t (0, 0))
theorem One.lt {w : World} {g : Nat} {x : Value} (h : One w g x) : g < w.heap.size := by
  obtain ⟨t, h⟩ := h; exact (Array.getElem?_eq_some_iff.1 h).1
theorem One.cells {w : World} {g : Nat} {x : Value} (h : One w g x) : w.cell? ⟨g, 0, none⟩ = some x ∧ w.frozen? ⟨g, 0, none⟩ = false := by
  obtain ⟨t, h⟩ := h
  exact ⟨Joins.cell_of_block h 0, Joins.unfrozen_of_block h 0⟩
theorem One.on {w w' : World} {B g : Nat} {x : Value} (h : One w g x) (hb : Below B w w') (hB : g < B) : One w' g x := by
  obtain ⟨t, h⟩ := h
  exact ⟨t, (hb.block g hB).trans h⟩
theorem one_new (w : World) (x : Value) (t : TypeId) : One (w.alloc (.cells #[x] t)) w.heap.size x :=
  ⟨t, by show (w.heap.push _)[w.heap.size]? = _; rw [Array.getElem?_push, if_pos rfl]⟩
theorem One.set {w : World} {g : Nat} {x x' : Value} (h : One w g x) : One (w.setCell ⟨g, 0, none⟩ x') g x' := by
  obtain ⟨t, h⟩ := h
  exact ⟨t, Joins.block_setCell (i := 0) h x'⟩
theorem One.other {w : World} {g h i : Nat} {x : Value} (ht : One w g x) (hne : g ≠ h) (v : Value) : One (w.setCell ⟨h, i, none⟩ v) g x := by
  obtain ⟨t, ht⟩ := ht
  exact ⟨t, (Below.heap_setCell w ⟨h, i, none⟩ v g hne).trans ht⟩
theorem One.grown {w w' : World} {g : Nat} {x : Value} {row : Option Nat} (h : One w g x) (hg : w.grownBy w' row) (hne : some g ≠ row) : One w' g x := by
  have hl := h.lt
  obtain ⟨t, h⟩ := h
  exact ⟨t, (hg.block g hl hne).trans h⟩
theorem One.drewN {w : World} {g : Nat} {x : Value} (h : One w g x) (q : Nat) : One (w.drewN q) g x := h
theorem grown_of_below {w w' : World} (h : Below w.heap.size w w') : w.grownBy w' none := ⟨h.os, h.tape, h.output, h.size, fun k hk _ => h.block k hk⟩
theorem own_on {v : Value} {w w' : World} {B n size : Nat} {e : TypeId} {xs : List Value} (h : w.ownsRow B e size v n xs) (hb : Below w.heap.size w w') : w'.ownsRow B e size v n xs :=
  h.kept (grown_of_below hb) (by cases v.ownBlock <;> simp)
theorem own_apart {v : Value} {w : World} {B t n size : Nat} {e : TypeId} {xs : List Value} (h : w.ownsRow B e size v n xs) (ht : t < B) : v.ownBlock = none ∨ v.ownBlock ≠ some t := by
  cases hv : v.ownBlock with
  | none => exact .inl rfl
  | some k =>
    have := (h.lt k hv).1
    exact .inr (fun e => by cases e; omega)
theorem apart_own {v : Value} {w : World} {B n size : Nat} {e : TypeId} {xs : List Value} (h : w.ownsRow B e size v n xs) : v.ownBlock = none ∨ ∃ k, v.ownBlock = some k ∧ B ≤ k := by
  cases hv : v.ownBlock with
  | none => exact .inl rfl
  | some k => exact .inr ⟨k, rfl, (h.lt k hv).1⟩
theorem own_ne {v : Value} {w : World} {B t n size : Nat} {e : TypeId} {xs : List Value} (h : w.ownsRow B e size v n xs) (ht : t < B) : some t ≠ v.ownBlock := by
  intro e
  have := (h.lt t e.symm).1
  omega
theorem grownBy_set (w : World) (g i : Nat) (v : Value) : w.grownBy (w.setCell ⟨g, i, none⟩ v) (some g) :=
  ⟨rfl, rfl, rfl, by simp, fun k _ hk => heap_setCell_other w ⟨g, i, none⟩ k v (fun e => hk (by simp [e]))⟩
theorem below_set {A : Nat} {w w' : World} {b i : Nat} (h : Below A w w') (hb : A ≤ b) (v : Value) : Below A w (w'.setCell ⟨b, i, none⟩ v) := h.setCell (p := ⟨b, i, none⟩) hb v
theorem addr_add (b off j : Nat) : (⟨b, off, none⟩ : Addr).add j = ⟨b, off + j, none⟩ := by unfold Addr.add; split <;> simp_all
end Go.Proofs.Ytbpjflghkkkenaa.mem
