/- The walk of the statement on nets, over any functions that read them. -/
import Derived.Test.YtfdihlicmmcjjaaBa
namespace Go.Proofs.Ytfdihlicmmcjjaa.aig
open Go.RowKit
open Go.Proofs.Ytfdihlicmmcjjaa.mem Go.Proofs.Ytfdihlicmmcjjaa.agf

/-- a list of its own is told -/
def Tells (L : List Int) (w : World) (e : Ending) (w' : World) : Prop := ∃ u, e = .returned u ∧ ints.Ints w' u L ∧ Below w.heap.size w w'
/-- what Inputs and Levels tell of a good net -/
structure NetsOk : Prop where
  check : ChecksOk
  inputs : ∀ (P : Nat → Prop) (v : Value) (ns : List (Int × Int)) (w : World), KNds P w v ns → GoodN ns → ns.length ≤ 1000 → Calls Try.prog 11 #[v] w (Tells (inpTo ns ns.length) w)
  levels : ∀ (P : Nat → Prop) (v : Value) (ns : List (Int × Int)) (w : World), KNds P w v ns → GoodN ns → ns.length ≤ 1000 → Calls Try.prog 13 #[v] w (Tells (levels ns) w)
theorem told_tells {L : List Int} {w w' : World} {e : Ending} (h : Told L w e w') : Tells L w e w' := by
  obtain ⟨v, h1, h2, h3⟩ := h
  exact ⟨v, h1, ints.ints_of_owned h2, h3⟩
theorem knds_take {P : Nat → Prop} {w : World} {a : Option Addr} {n cap k : Nat} {ns : List (Int × Int)} (h : KNds P w (.slice a n cap) ns) (hk : k ≤ n) : KNds P w (.slice a k cap) (ns.take k) := by
  obtain ⟨a', cap', hv, h1, h2, h3⟩ := h
  obtain ⟨rfl, e1, rfl⟩ := Value.slice.inj hv
  have hl : (ns.take k).length = k := by rw [List.length_take]; omega
  refine ⟨a, cap, by rw [hl], by omega, h2, fun hp => ?_⟩
  obtain ⟨b, off, ha, hlt, hn, hc⟩ := h3 (by omega)
  refine ⟨b, off, ha, hlt, hn, fun i hi => ?_⟩
  have hik : i < k := by omega
  have : (ns.take k).getD i (0, 0) = ns.getD i (0, 0) := by simp [hik]
  rw [this]
  exact hc i (by omega)
theorem wpList_cloneN {ops : Array Oper} {rest : List Oper} {o : Oper} {act : Act} {Q : Exit → Act → World → Prop} (w : World) (hgd : o.guard = none) (s x : Operand)
    (ho : o.op = .call { callee := .builtin .append, args := #[s, x], argTypes := #[22, 22] }) (hs : act.eval s = .slice (some ⟨w.heap.size, 0, none⟩) 0 0) (v : Value) (hx : act.eval x = v)
    (ns : List (Int × Int)) (P : Nat → Prop) (hv : KNds P w v ns) (ok : SliceOk v) (hsz : ns.length ≤ 1000)
    (h : ∀ v' w', w'.ownsRow w.heap.size 54 2 v' ns.length (nodeCells ns) → Below w.heap.size w w' → wpList Try.prog ops Q rest (act.put o.dst v') w') :
    wpList Try.prog ops Q (o :: rest) act (w.alloc (.cells #[] 54)) := by
  have hb0 : Below w.heap.size w (w.alloc (.cells #[] 54)) := (Below.refl _ w).alloc (Nat.le_refl _) _
  refine wpList_step fun K hK => ?_
  exact step_clone2N _ hgd s x ho w.heap.size hs (row_made w _ 2 _ rfl) v hx ns (fun _ => False) (knds_any hv hb0) ok hsz (fun v' w' h1 h2 _ => hK _ _ (h v' w' h1 (hb0.grown h2 (by simp) (fun k hk => by cases hk; exact Nat.le_refl _))))
set_option maxRecDepth 100000 in
set_option maxHeartbeats 6400000 in
theorem nets_any (J : Proj) (C : NetsOk) (a : Option Addr) (n cap : Nat) (ns0 : List (Int × Int)) (W : World) (hv : KNds (New W) W (.slice a n cap) ns0) (ok : SliceOk (.slice a n cap)) :
    Calls Try.prog 3 #[.slice a n cap] W fun e w' => e = .returned (.bool true) ∧ Below W.heap.size W w' := by
  have HV := Lib.hid hv
  have HK := Lib.hid ok
  obtain ⟨a1, c1, h1, h2, h3, -⟩ := hv
  obtain ⟨rfl, hn0, rfl⟩ := Value.slice.inj h1
  unfold maxLen at h3
  rw [← hn0] at h2
  have HN0 := Lib.hid hn0
  clear ok hn0 h1
  go_enter Try.func3, Try.ntmps3
  go_upto_if 6 with fail
  go_cut [0] (fun s0 wx => ∃ m : Nat, m ≤ 500 ∧ m ≤ n ∧ s0 = .slice a m cap ∧ W = wx)
  case first =>
    by_cases h6 : 500 < n
    · have c1 : decide (500 < n) = true := by simp; omega
      go_wp2_with fail
      go_meet
      exact ⟨500, by omega, by omega, rfl, rfl⟩
    · have c1 : decide (500 < n) = false := by simp; omega
      go_wp2_with fail
      go_meet
      exact ⟨n, by omega, by omega, rfl, rfl⟩
  case rest =>
    obtain ⟨m, hm5, hmn, rfl, rfl⟩ := hcut
    obtain ⟨ns, hns⟩ : ∃ ns, ns = ns0.take m := ⟨_, rfl⟩
    have hlen : ns.length = m := by rw [hns, List.length_take, ← HN0.out]; omega
    have HKM : Hid (KNds (New W) W (.slice a m cap) ns) := Lib.hid (by rw [hns]; exact knds_take HV.out hmn)
    have HOK : Hid (SliceOk (.slice a m cap)) := Lib.hid (by
      rcases HK.out with e | ⟨x, p, q, e⟩
      · obtain ⟨rfl, e2, rfl⟩ := Value.slice.inj e
        obtain rfl : m = 0 := by omega
        exact .inl rfl
      · obtain ⟨rfl, -, -⟩ := Value.slice.inj e
        exact .inr ⟨_, _, _, rfl⟩)
    have HLE := Lib.hid hlen
    clear hns hlen HV HK
    go_wp2_with (at_builtin; refine wpList_cloneN W rfl (.tmp 9) (.tmp 10) rfl rfl (.slice a m cap) rfl ns _ HKM.out HOK.out (by rw [HLE.out]; omega) ?_)
    intro ov w1 hown hb1
    have HO := Lib.hid (knds_row (P := fun _ => False) hown (fun _ e => e.elim))
    have HB1 := Lib.hid hb1
    clear hown hb1
    go_wp2_with fail
    have KO : Hid (∀ u, Below w1.heap.size w1 u → KNds (fun _ => False) u ov ns) := Lib.hid (fun u hu => knds_any HO.out hu)
    have KA : Hid (∀ u, Below w1.heap.size w1 u → KNds (fun _ => False) u (.slice a m cap) ns) := Lib.hid (fun u hu => knds_any HKM.out (HB1.out.trans (hu.mono HB1.out.size)))
    obtain ⟨r, hr⟩ : ∃ r, r = chk ns := ⟨_, rfl⟩
    have HR := Lib.hid hr
    go_at_call 8; refine (C.check _ ov ns _ (KO.out _ (Below.refl _ _)) (by rw [HLE.out]; omega)).mono ?_; rintro e w2 ⟨he, b2⟩
    rw [← hr] at he
    subst he
    have HB2 := Lib.hid b2
    clear hr b2
    go_wp2_with fail
    go_at_call 9; refine (refCheck_any _ _ ns _ (KA.out _ HB2.out) (by rw [HLE.out]; omega)).mono ?_; rintro e w3 ⟨he, rfl⟩
    rw [← HR.out] at he
    subst he
    have t0 : (r != r) = false := by simp
    go_wp2_with fail
    go_at_call 9; refine (refCheck_any _ _ ns _ (KA.out _ HB2.out) (by rw [HLE.out]; omega)).mono ?_; rintro e w4 ⟨he, rfl⟩
    rw [← HR.out] at he
    subst he
    clear t0
    by_cases hok : okB ns = true
    · obtain rfl : r = 0 := by rw [HR.out]; unfold chk; rw [hok]; rfl
      have HG := Lib.hid (okB_good hok)
      clear hok
      go_wp2_with fail
      go_at_call 11; refine (C.inputs _ ov ns _ (KO.out _ HB2.out) HG.out (by rw [HLE.out]; omega)).mono ?_; rintro e w5 ⟨u5, rfl, i5, b5⟩
      have HB5 := Lib.hid (HB2.out.trans (b5.mono HB2.out.size))
      have HI5 := Lib.hid i5
      clear i5 b5
      go_wp2_with fail
      go_at_call 12; refine (refInputs_any _ _ ns _ (KA.out _ HB5.out) (by rw [HLE.out]; omega)).mono ?_; rintro e w6 ht
      obtain ⟨u6, rfl, i6, b6⟩ := told_tells ht
      have HI5b := Lib.hid (HI5.out.on b6)
      have HI6 := Lib.hid i6
      have HB6 := Lib.hid (HB5.out.trans (b6.mono HB5.out.size))
      clear i6 b6 ht
      go_wp2_with fail
      go_at_call 10; refine (ints.refInts_same rfl HI5b.out HI6.out).mono ?_; rintro e w7 ⟨rfl, b7⟩
      have HB7 := Lib.hid (HB6.out.trans (b7.mono HB6.out.size))
      clear b7
      go_wp2_with fail
      go_at_call 13; refine (C.levels _ ov ns _ (KO.out _ HB7.out) HG.out (by rw [HLE.out]; omega)).mono ?_; rintro e w8 ⟨u8, rfl, i8, b8⟩
      have HB8 := Lib.hid (HB7.out.trans (b8.mono HB7.out.size))
      have HI8 := Lib.hid i8
      clear i8 b8
      go_wp2_with fail
      go_at_call 14; refine (refLevels_any _ _ ns _ (KA.out _ HB8.out) HG.out (by rw [HLE.out]; omega)).mono ?_; rintro e w9 ht
      obtain ⟨u9, rfl, i9, b9⟩ := told_tells ht
      have HI8b := Lib.hid (HI8.out.on b9)
      have HI9 := Lib.hid i9
      have HB9 := Lib.hid (HB8.out.trans (b9.mono HB8.out.size))
      clear i9 b9 ht
      go_wp2_with fail
      go_at_call 10; refine (ints.refInts_same rfl HI8b.out HI9.out).mono ?_; rintro e w10 ⟨rfl, b10⟩
      have HB10 := Lib.hid (HB9.out.trans (b10.mono HB9.out.size))
      clear b10
      go_wp2_with fail
      go_at_call 15; refine (refSame_yes _ _ ov _ ns ns _ (KO.out _ HB10.out) (KA.out _ HB10.out) rfl (by rw [HLE.out]; omega) (fun _ _ => .inr rfl)).mono ?_; rintro e w11 ⟨rfl, b11⟩
      have HB11 := Lib.hid (HB10.out.trans (b11.mono HB10.out.size))
      clear b11
      go_wp2_with fail
      go_at_call 16; refine (lives_any J _).mono ?_; rintro e w12 ⟨rfl, b12⟩
      have HE := Lib.hid (HB1.out.trans ((HB11.out.trans (b12.mono HB11.out.size)).mono HB1.out.size))
      clear b12
      go_wp2_with fail
      go_ret
      exact ⟨rfl, HE.out⟩
    · obtain rfl : r = 5 := by rw [HR.out]; unfold chk; rw [Bool.not_eq_true] at hok; rw [hok]; rfl
      have HE := Lib.hid (HB1.out.trans (HB2.out.mono HB1.out.size))
      clear hok
      go_wp2_with fail
      go_ret
      exact ⟨rfl, HE.out⟩
end Go.Proofs.Ytfdihlicmmcjjaa.aig
