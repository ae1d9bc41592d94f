/- The walks of heap's Push, Set and Pop. -/
import Derived.Test.YtpcpjpcejcgodaaK6
import Derived.Test.YtpcpjpcejcgodaaFnJ
namespace Go.Proofs.Ytpcpjpcejcgodaa.heap
open Go.RowKit
open Go.Proofs.Ytpcpjpcejcgodaa.fns Go.Proofs.Ytpcpjpcejcgodaa.hpf Go.Proofs.Ytpcpjpcejcgodaa.ints

theorem ncells_snoc (T : List Nat) (x : Nat) : ncells T ++ [Value.int .i64 (x : Int)] = ncells (T ++ [x]) := by simp [ncells]
theorem one_cell (x : Nat) : ∀ u ∈ ([.int .i64 (x : Int)] : List Value), u.oneCell' = true := by
  intro u hu; simp at hu; subst hu; rfl
theorem news1 (w : World) (x : Value) (t : TypeId) : ∀ j u, ([x] : List Value)[j]? = some u → (w.alloc (.cells #[x] t)).cell? ((⟨w.heap.size, 0, none⟩ : Addr).add j) = some u := by
  intro j u hj
  match j, hj with
  | 0, hj => simp at hj; subst hj; simp [Addr.add]
/-- how Push leaves things -/
def Pushed (A B g s p n x : Nat) (S P T : List Nat) (w w' : World) : Prop :=
  ∃ tv' P' T', Hp A B w' g s p tv' n S P' T' ∧ Hok n S P' T' ∧ T'.length = T.length + 1 ∧ Same (P.set x (T.length + 1)) P' ∧ Below A w w'
theorem apart_own {v : Value} {w : World} {B n : Nat} {e : TypeId} {xs : List Value} (h : w.ownsRow B e 1 v n xs) : v.ownBlock = none ∨ ∃ k, v.ownBlock = some k ∧ B ≤ k := by
  cases hv : v.ownBlock with
  | none => exact .inl rfl
  | some k => exact .inr ⟨k, rfl, (h.lt k hv).1⟩
theorem below_alloc1 (w : World) (o : Obj) (A : Nat) (h : A ≤ w.heap.size) : Below A w (w.alloc o) := (Below.refl _ _).alloc h o
set_option maxHeartbeats 1600000 in
theorem Push_any (A B g s p n x : Nat) (tv : Value) (S P T : List Nat) (w : World) (h : Hp A B w g s p tv n S P T) (hS : AllW S) (hok : Hok n S P T) (hx : x < n) (h0 : P.getD x 0 = 0) (hT : T.length < n) (hn : n ≤ 1048576) :
    Calls Try.prog 6 #[.pointer (some ⟨g, 0, none⟩), .int .i64 x] w fun e w' => e = .returned (.int .i64 0) ∧ Pushed A B g s p n x S P T w w' := by
  obtain ⟨i0, hi, hz0, hz1, hz2⟩ := info_parts infoInt
  have hlow := h.low
  have HH := Lib.hid h
  have HS := Lib.hid hS
  have HK := Lib.hid hok
  have HA1 : Hid (Hp A B (w.alloc (.cells #[.int .i64 (x : Int)] 3)) g s p tv n S P T) := Lib.hid (h.on ((Below.refl _ _).alloc (Nat.le_refl _) _))
  obtain ⟨-, -, c2, -⟩ := h.cG
  have HHas : Hid (decide (0 < P.getD x 0) = false) := Lib.hid (by rw [h0]; rfl)
  have H0 := Lib.hid h0
  clear h hS hok h0
  go_enter Try.func6, Try.ntmps6
  go_wp2_with fail
  go_at_call 17; refine (known_any A B g s p n x _ S P T _ HH.out hx).mono ?_; rintro e w' ⟨rfl, rfl⟩
  go_wp2_with fail
  go_at_call 14; refine (Has_of A B g s p n x _ S P T _ HHas.out HH.out hx).mono ?_; rintro e w' ⟨rfl, rfl⟩
  go_upto_region 5 with fail
  go_cut [] (fun wx => Hid (∃ tv', Hp A B wx g s p tv' n S P (T ++ [x]) ∧ Below A w wx))
  case first =>
    go_wp2_with (at_builtin; refine wpList_append_lies _ rfl _ _ 39 rfl B 3 i0 (.int .i64 0) 1 8 Try.underlying39 hi hz0 hz1 hz2 rfl (by decide) tv T.length (ncells T) rfl HA1.out.tr ⟨w.heap.size, 0, none⟩ 1 1 [.int .i64 (x : Int)] rfl rfl (news1 _ _ _) (one_cell x) (by decide) (by unfold maxLen; omega) (by omega) (by simp; omega) _ rfl ?_)
    intro t c w1 hown hgrow hat hlt
    rw [ncells_snoc, show T.length + 1 = (T ++ [x]).length by simp] at hown
    have hN0 := HA1.out.setO hgrow (apart_own HA1.out.tr) hown
    rw [List.length_append, List.length_singleton] at hN0
    have HN := Lib.hid hN0
    clear hN0
    have HB : Hid (Below A w (w1.setCell ⟨g, 2, none⟩ (.slice (some ⟨t, 0, none⟩) (T.length + 1) c))) := Lib.hid
      ((((Below.refl A w).alloc (by omega) _).grown hgrow (by simp; omega) (fun k hk => by
        rcases apart_own HA1.out.tr with e | ⟨k', e, hB⟩
        · rw [e] at hk; cases hk
        · rw [e] at hk; cases hk; omega)).setCell (p := ⟨g, 2, none⟩) (by show A ≤ g; omega) _)
    have hne : some g ≠ tv.ownBlock := by
      rcases apart_own HA1.out.tr with e | ⟨k', e, hB⟩
      · rw [e]; simp
      · rw [e]; intro x; cases x; have := HA1.out.lay; omega
    obtain ⟨-, -, d2, df⟩ := HA1.out.cG
    have hgl : g < (w.alloc (.cells #[.int .i64 (x : Int)] 3)).heap.size := by have := HA1.out.lay; omega
    have c3 := (hgrow.cell_far ⟨g, 2, none⟩ hgl hne).trans d2
    have f3 := (hgrow.frozen_far ⟨g, 2, none⟩ hgl hne).trans df
    clear hown hgrow hat hne d2 df c2
    go_wp2_with fail
    go_meet
    exact ⟨_, HN.out, HB.out⟩
  case rest =>
    clear HA1 c2 HH HHas
    obtain ⟨tv', hp, hb⟩ := hcut.out
    obtain ⟨W, rfl⟩ : ∃ W : World, W = wc := ⟨_, rfl⟩
    obtain ⟨t, c, rfl⟩ := hp.form (by simp)
    obtain ⟨m, hm⟩ : ∃ m, m = (T ++ [x]).length := ⟨_, rfl⟩
    have hm1 : m = T.length + 1 := by rw [hm]; simp
    rw [← hm] at hp
    have HM := Lib.hid hm1
    have hp1 := hp.setP x m
    have HP1 := Lib.hid hp1
    have HB := Lib.hid hb
    have HBt := Lib.hid hp.len.2.2.2
    obtain ⟨-, c1, c2, -⟩ := hp.cG
    obtain ⟨x2, f2⟩ := hp.cP hx
    obtain ⟨o1, ho1⟩ : ∃ o1, o1 = ((P.getD x 0 : Nat) : Int) := ⟨_, rfl⟩
    rw [← ho1] at x2
    have d1 : (x : Int) < (n : Int) := by omega
    have d2 : 0 ≤ (x : Int) := by omega
    have hmn : m ≤ n := by omega
    clear ho1 hp hb hm hm1 hp1 hcut
    go_upto_region 6 with fail
    go_cut [] (fun wx => Hid (Hp A B wx g s p (.slice (some ⟨t, 0, none⟩) m c) n S (P.set x m) (T ++ [x]) ∧ Below A w wx))
    case first =>
      have HB1 : Hid (Below A w (W.setCell ⟨p, x, none⟩ (.int .i64 (m : Int)))) := Lib.hid (HB.out.setCell (p := ⟨p, x, none⟩) (by show A ≤ p; omega) _)
      go_region
      go_wp2_with fail
      go_meet
      exact ⟨HP1.out.drewN 1, HB1.out.drew⟩
    case rest =>
      clear HP1 x2 f2 c1 c2 HB d1 d2
      obtain ⟨hp, hb⟩ := hcut.out
      obtain ⟨W, rfl⟩ : ∃ W : World, W = wc := ⟨_, rfl⟩
      have HP := Lib.hid hp
      have HB := Lib.hid hb
      have HW := Lib.hid (push_way HK.out hx H0.out)
      clear hp hb hcut
      go_wp2_with fail
      go_at_call 18; refine (rise_any A B g s p t m c n x T.length S (P.set x m) (T ++ [x]) True _ HP.out HS.out (by rw [HM.out]; exact HW.out) hn hmn).mono ?_; rintro e w2 ⟨rfl, hr⟩
      have HE : Hid (Pushed A B g s p n x S P T w w2) := Lib.hid (by
        obtain ⟨P', T', q, e1, e2, e3, e4, e5, e6⟩ := hr
        refine ⟨_, P', T', e1, e2.hok trivial e3, by rw [e5]; simp, by rw [← HM.out]; exact e4, HB.out.trans (e6.below (by have := HBt.out; omega) (by omega) (by have := HB.out.size; omega))⟩)
      clear hr
      go_wp2_with fail
      go_ret
      exact ⟨rfl, HE.out⟩
theorem store_float (w : World) (a : Addr) (n : Nat) : (store a (.float .f64 n)).run Try.prog w = stored Try.prog w a (.float .f64 n) Mode.plain := run_store Try.prog w a _ _ rfl
/-- how Set leaves things -/
def Setted (A B g s p n x b : Nat) (tv : Value) (S P T : List Nat) (w w' : World) : Prop :=
  ∃ P' T', Hp A B w' g s p tv n (S.set x b) P' T' ∧ Hok n (S.set x b) P' T' ∧ Same P P' ∧ T'.length = T.length ∧ Below A w w'
set_option maxHeartbeats 1600000 in
theorem Set_any (A B g s p n x b : Nat) (tv : Value) (S P T : List Nat) (w : World) (h : Hp A B w g s p tv n S P T) (hS : AllW S) (hb : W64 b) (hok : Hok n S P T) (hx : x < n) (hT : T.length ≤ n) (hn : n ≤ 1048576) :
    Calls Try.prog 7 #[.pointer (some ⟨g, 0, none⟩), .int .i64 x, .float .f64 b] w fun e w' => e = .returned (.int .i64 0) ∧ Setted A B g s p n x b tv S P T w w' := by
  have hlow := h.low
  have HH := Lib.hid h
  have HS := Lib.hid (allW_set (i := x) hS hb)
  have HK := Lib.hid hok
  have HSet := Lib.hid (h.setS x b)
  obtain ⟨c0, -, -, -⟩ := h.cG
  obtain ⟨x1, f1⟩ := h.cS hx
  obtain ⟨o1, ho1⟩ : ∃ o1, o1 = S.getD x 0 := ⟨_, rfl⟩
  rw [← ho1] at x1
  have HB : Hid (Below A w (w.setCell ⟨s, x, none⟩ (.float .f64 b))) := Lib.hid ((Below.refl _ _).setCell (p := ⟨s, x, none⟩) (by show A ≤ s; omega) _)
  have hsf := store_float w ⟨s, x, none⟩ b
  have d1 : (x : Int) < (n : Int) := by omega
  have d2 : 0 ≤ (x : Int) := by omega
  clear h hS hok ho1 hb
  by_cases h0 : P.getD x 0 = 0
  · have HE : Hid (Setted A B g s p n x b tv S P T w (w.setCell ⟨s, x, none⟩ (.float .f64 b))) := Lib.hid ⟨P, T, HSet.out, set_out HK.out h0, Same.refl _, rfl, HB.out⟩
    have HHas : Hid (decide (0 < P.getD x 0) = false) := Lib.hid (by rw [h0]; rfl)
    clear h0
    go_enter Try.func7, Try.ntmps7
    go_wp2_with fail
    go_at_call 17; refine (known_any A B g s p n x _ S P T _ HH.out hx).mono ?_; rintro e w' ⟨rfl, rfl⟩
    go_wp2_with fail
    go_at_call 14; refine (Has_of A B g s p n x _ (S.set x b) P T _ HHas.out HSet.out hx).mono ?_; rintro e w' ⟨rfl, rfl⟩
    go_wp2_with fail
    go_ret
    exact ⟨rfl, HE.out⟩
  · obtain ⟨q, hq⟩ : ∃ q, P.getD x 0 = q + 1 := ⟨P.getD x 0 - 1, by omega⟩
    have hw := set_way (b := b) HK.out hx hq
    have hql := hw.lt
    obtain ⟨t, c, rfl⟩ := HH.out.form (by omega)
    obtain ⟨m, hm⟩ : ∃ m, m = T.length := ⟨_, rfl⟩
    rw [← hm] at HH HSet hT ⊢
    have HM := Lib.hid hm
    have HW := Lib.hid hw
    have hBt := HH.out.len.2.2.2.1
    have HHas : Hid (decide (0 < P.getD x 0) = true) := Lib.hid (by rw [hq]; simp)
    clear h0 hq hw hm
    go_enter Try.func7, Try.ntmps7
    go_wp2_with fail
    go_at_call 17; refine (known_any A B g s p n x _ S P T _ HH.out hx).mono ?_; rintro e w' ⟨rfl, rfl⟩
    go_wp2_with fail
    go_at_call 14; refine (Has_of A B g s p n x _ (S.set x b) P T _ HHas.out HSet.out hx).mono ?_; rintro e w' ⟨rfl, rfl⟩
    go_wp2_with fail
    go_at_call 18; refine (rise_any A B g s p t m c n x q (S.set x b) P T False _ HSet.out HS.out HW.out hn hT).mono ?_; rintro e w2 ⟨rfl, hr⟩
    obtain ⟨P', T', q', e1, e2, e3, e4, e5, e6⟩ := hr
    have HE1 := Lib.hid e1
    have HE2 := Lib.hid e2
    have HE3 := Lib.hid e3
    have HE4 := Lib.hid e4
    have HE5 := Lib.hid e5
    have HE6 := Lib.hid e6
    clear e1 e2 e3 e4 e5 e6
    go_wp2_with fail
    go_at_call 19; refine (sink_any A B g s p t m c n x q' (S.set x b) P' T' _ HE1.out HS.out HE2.out HE3.out hn hT).mono ?_; rintro e w3 ⟨rfl, hr⟩
    have HE : Hid (Setted A B g s p n x b (.slice (some ⟨t, 0, none⟩) m c) S P T w w3) := Lib.hid (by
      obtain ⟨P'', T'', k1, k2, k3, k4, k5⟩ := hr
      exact ⟨P'', T'', k1, k2, HE4.out.trans k3, k4.trans HE5.out, HB.out.trans ((HE6.out.trans k5).below (by omega) (by omega) (by have := HB.out.size; omega))⟩)
    clear hr HM
    go_wp2_with fail
    go_ret
    exact ⟨rfl, HE.out⟩
end Go.Proofs.Ytpcpjpcejcgodaa.heap
