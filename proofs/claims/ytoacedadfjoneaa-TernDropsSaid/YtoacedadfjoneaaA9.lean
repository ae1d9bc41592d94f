/- The walks of the document's Of, Values and Same. -/
import Derived.Test.YtoacedadfjoneaaA8
import Derived.Laws.StructEq
namespace Go.Proofs.Ytoacedadfjoneaa.aig
open Go.RowKit
open Go.Proofs.Ytoacedadfjoneaa.mem Go.Proofs.Ytoacedadfjoneaa.agf

/-- a slice of truths -/
def KB (w : World) (v : Value) (bs : List Bool) : Prop :=
  ∃ (a : Option Addr) (cap : Nat), v = .slice a bs.length cap ∧ bs.length ≤ cap ∧ cap ≤ maxLen ∧
    (0 < bs.length → ∃ b off, a = some ⟨b, off, none⟩ ∧ b < w.heap.size ∧ ∀ i, i < bs.length → w.cell? ⟨b, off + i, none⟩ = some (.bool (bs.getD i false)))
theorem KB.on {w w' : World} {v : Value} {bs : List Bool} (h : KB w v bs) (hb : Below w.heap.size w w') : KB w' v bs := by
  obtain ⟨a, cap, hv, h1, h2, h3⟩ := h
  refine ⟨a, cap, hv, h1, h2, fun hp => ?_⟩
  obtain ⟨b, off, ha, hlt, hc⟩ := h3 hp
  exact ⟨b, off, ha, Nat.lt_of_lt_of_le hlt hb.size, fun i hi => (hb.cell (p := ⟨b, off + i, none⟩) hlt).trans (hc i hi)⟩
theorem KB.at_ {w : World} {a : Option Addr} {m cap : Nat} {bs : List Bool} (h : KB w (.slice a m cap) bs) {i : Nat} (hi : i < m) : ∃ b off, a = some ⟨b, off, none⟩ ∧ b < w.heap.size ∧ w.cell? ⟨b, off + i, none⟩ = some (.bool (bs.getD i false)) := by
  obtain ⟨a', cap', hv, h1, h2, h3⟩ := h
  obtain ⟨rfl, rfl, rfl⟩ := Value.slice.inj hv
  obtain ⟨b, off, ha, hlt, hc⟩ := h3 (by omega)
  exact ⟨b, off, ha, hlt, hc i hi⟩
theorem kb_row {w : World} {base : Nat} {v : Value} {bs : List Bool} (h : w.ownsRow base 4 1 v bs.length (bs.map Value.bool)) : KB w v bs := by
  rcases h.2 with ⟨rfl, h0⟩ | ⟨g, cap, cur, rfl, hb, hg, hn, hm, hs, ht⟩
  · exact ⟨none, 0, by rw [h0], by omega, by unfold maxLen; omega, fun hp => by omega⟩
  · refine ⟨some ⟨g, 0, none⟩, cap, rfl, hn, hm, fun hp => ⟨g, 0, rfl, (Array.getElem?_eq_some_iff.1 hg).1, fun i hi => ?_⟩⟩
    rw [Nat.zero_add, h.cellAt i (by omega), List.getElem?_map, List.getElem?_eq_getElem hi]
    simp [List.getD, hi]
theorem refOf_any (v : Value) (bs : List Bool) (l : Nat) (w : World) (hv : KB w v bs) (hl : l / 2 < bs.length) :
    Calls Try.prog 32 #[v, .int .i64 (l : Int)] w fun e w' => e = .returned (.bool (ev bs l)) ∧ w = w' := by
  obtain ⟨a, cap, rfl, h1, h2, h3⟩ := hv
  unfold maxLen at h2
  obtain ⟨b, off, rfl, -, hc⟩ := h3 (by omega)
  have e1 := hc (l / 2) hl
  have HE : Hid (ev bs l = (bs.getD (l / 2) false != ((l : Int) % 2 == 1))) := Lib.hid (by
    unfold ev
    congr 1
    by_cases h : l % 2 = 1
    · rw [h]
      have : (l : Int) % 2 = 1 := by omega
      rw [this]; rfl
    · have h' : l % 2 = 0 := by omega
      rw [h']
      have : (l : Int) % 2 = 0 := by omega
      rw [this]; rfl)
  obtain ⟨x, hx⟩ : ∃ x, x = bs.getD (l / 2) false := ⟨_, rfl⟩
  rw [← hx] at e1 HE
  obtain ⟨m, hm⟩ : ∃ m, m = bs.length := ⟨_, rfl⟩
  rw [← hm] at hl h1 ⊢
  have d1 : (l : Int) / 2 < (m : Int) := by omega
  have d2 : 0 ≤ (l : Int) / 2 := by omega
  clear hc h3 hx hm
  go_enter Try.func32, Try.ntmps32
  go_wp2_with fail
  go_ret
  exact ⟨retB HE.out.symm, rfl⟩
theorem refOf_of {v : Value} {bs : List Bool} {l : Nat} {r : Bool} (hr : ev bs l = r) (w : World) (hv : KB w v bs) (hl : l / 2 < bs.length) :
    Calls Try.prog 32 #[v, .int .i64 (l : Int)] w fun e w' => e = .returned (.bool r) ∧ w = w' := by
  have := refOf_any v bs l w hv hl; rw [hr] at this; exact this
theorem infoB : (Try.prog.info? 4).map (fun i => (i.zero, i.size, i.bytes)) = some (some (.bool false), 1, 1) := by kernel_rfl
theorem one_bool (x : Bool) : ∀ u ∈ ([.bool x] : List Value), u.oneCell' = true := by
  intro u hu; simp at hu; subst hu; rfl
theorem map_snocB (L : List Bool) (r : Bool) : L.map Value.bool ++ [Value.bool r] = (L ++ [r]).map Value.bool := by simp
theorem brow_end {base t c : Nat} {lv : Value} {L : List Bool} {r : Bool} {w w1 w2 : World} {o : Obj} (hb : Below base w w1) (hs : base ≤ w1.heap.size) (hrow : w1.ownsRow base 4 1 lv L.length (L.map Value.bool))
    (hown : w2.ownsRow base 4 1 (.slice (some ⟨t, 0, none⟩) (L.length + 1) c) (L.length + 1) (L.map Value.bool ++ [.bool r])) (hg : (w1.alloc o).grownBy w2 lv.ownBlock) :
    w2.ownsRow base 4 1 (.slice (some ⟨t, 0, none⟩) (L.length + 1) c) (L ++ [r]).length ((L ++ [r]).map Value.bool) ∧ Below base w w2 := by
  refine ⟨?_, (hb.alloc hs o).grown hg (by simp; omega) (fun k hk => (hrow.lt k hk).1)⟩
  rw [map_snocB] at hown
  rw [List.length_append, List.length_singleton]; exact hown
/-- how truths are told -/
def ToldB (L : List Bool) (w : World) (e : Ending) (w' : World) : Prop :=
  ∃ v, e = .returned v ∧ w'.ownsRow w.heap.size 4 1 v L.length (L.map Value.bool) ∧ Below w.heap.size w w'
theorem st_step (ins : List Bool) {N : Net} {k : Nat} {x : Nd} (h : N[k]? = some x) : st ins (N.take (k + 1)) = valStep ins (st ins (N.take k)) x := by
  rw [take_snoc h, st_snoc]
set_option maxRecDepth 100000 in
set_option maxHeartbeats 3200000 in
theorem refValues_any (P : Nat → Prop) (v iv : Value) (ns : List (Int × Int)) (ins : List Bool) (w : World) (hv : KNds P w v ns) (hi : KB w iv ins) (hg : GoodN ns) (hn : ns.length ≤ 5000) :
    Calls Try.prog 17 #[v, iv] w (ToldB (st ins (ns.map absN)).1 w) := by
  obtain ⟨i0, hj, hz0, hz1, hz2⟩ := info_parts infoB
  obtain ⟨a, cap, rfl, l1, l2⟩ := hv.form
  unfold maxLen at l2
  have HI := Lib.hid hi
  obtain ⟨ai, capi, rfl, l3, l4, -⟩ := hi
  unfold maxLen at l4
  obtain ⟨m, hm⟩ : ∃ m, m = ns.length := ⟨_, rfl⟩
  rw [← hm] at l1 hn hv
  obtain ⟨n, hnn⟩ : ∃ n, n = ins.length := ⟨_, rfl⟩
  rw [← hnn] at l3 HI
  have HV := Lib.hid hv
  have HM := Lib.hid hm
  have HG := Lib.hid hg
  have HNN := Lib.hid hnn
  have HB0 : Hid (Below w.heap.size w (w.alloc (.cells #[.bool false] 4))) := Lib.hid ((Below.refl _ _).alloc (Nat.le_refl _) _)
  have HR0 : Hid ((w.alloc (.cells #[.bool false] 4)).ownsRow w.heap.size 4 1 (.slice (some ⟨w.heap.size, 0, none⟩) 1 1) 1 [.bool false]) := Lib.hid (World.ownsRow_lit w #[.bool false] 1 (Nat.le_refl _) (by unfold maxLen; omega) rfl)
  rw [← hm, ← hnn]
  clear hv hm hg hnn
  go_enter Try.func17, Try.ntmps17
  go_wp2_with fail
  go_loopw [5, 6, 7] (fun l kv i wr => ∃ (k kk : Nat) (L : List Bool) (lv : Value), k ≤ m ∧ kk ≤ k ∧ i = .int .i64 k ∧ kv = .int .i64 kk ∧ l = lv ∧ L.length = k + 1 ∧ Hid (st ins ((ns.map absN).take k) = (L, kk)) ∧ Hid (wr.ownsRow w.heap.size 4 1 lv L.length (L.map Value.bool) ∧ Below w.heap.size w wr)) (fun _ _ i _ => m - (intOf i).toNat)
  case atStart => exact ⟨0, 0, [false], _, Nat.zero_le _, Nat.le_refl _, rfl, rfl, rfl, rfl, Lib.hid rfl, Lib.hid ⟨HR0.out, HB0.out⟩⟩
  case round =>
    clear HB0 HR0
    obtain ⟨k, kk, L, lv, hk, hkk, rfl, rfl, hlv, hL, HST, HW⟩ := hrel
    obtain rfl : lv = _ := hlv.symm
    obtain ⟨wo, rfl⟩ : ∃ wo : World, wo = wr := ⟨_, rfl⟩
    by_cases hlt : k < m
    · obtain ⟨b, off, rfl, -, e1, e2⟩ := (HV.out.on HW.out.2).at_ hlt
      have HAT := Lib.hid (absN_at (ns := ns) (k := k) (by rw [← HM.out]; exact hlt))
      have hgg := HG.out k (by rw [← HM.out]; exact hlt)
      obtain ⟨pq, hpq⟩ : ∃ pq, pq = ns.getD k (0, 0) := ⟨_, rfl⟩
      rw [← hpq] at e1 e2 HAT hgg
      obtain ⟨p, q⟩ := pq
      simp only at e1 e2 hgg
      have HS2 : Hid (st ins ((ns.map absN).take (k + 1)) = valStep ins (L, kk) (absN (p, q))) := Lib.hid (by rw [st_step ins HAT.out, HST.out])
      have hsz := HW.out.2.size
      have d1 : (k : Int) < (m : Int) := by omega
      have d2 : 0 ≤ (k : Int) := by omega
      have HLL := Lib.hid hL
      have hLb : L.length ≤ 5001 := by omega
      clear hpq
      by_cases g0 : p < 0
      · have c1 : decide (p < 0) = true := decide_eq_true g0
        obtain ⟨r, hr⟩ : ∃ r, r = ins.getD kk false := ⟨_, rfl⟩
        have HN : Hid (st ins ((ns.map absN).take (k + 1)) = (L ++ [r], kk + 1)) := Lib.hid (by rw [HS2.out, hr]; unfold absN; rw [if_pos g0]; rfl)
        have HROW := Lib.hid (own_on HW.out.1 ((Below.refl _ wo).alloc (Nat.le_refl _) (.cells #[.bool r] 4)))
        by_cases hkn : kk < n
        · obtain ⟨b', off', rfl, -, e3⟩ := (HI.out.on HW.out.2).at_ hkn
          rw [← hr] at e3
          have d3 : (kk : Int) < (n : Int) := by omega
          have d4 : 0 ≤ (kk : Int) := by omega
          clear g0 hgg hL hr hkn
          go_wp2_with (at_builtin; refine wpList_append_lies _ rfl (.tmp 21) (.tmp 32) 35 rfl w.heap.size 4 i0 (.bool false) 1 1 Try.underlying35 hj hz0 hz1 hz2 rfl (by decide) lv L.length (L.map Value.bool) rfl HROW.out ⟨wo.heap.size, 0, none⟩ 1 1 [.bool r] rfl rfl (news1 _ _ _) (one_bool _) (by omega) (by unfold maxLen; omega) (by omega) (by simp; omega) _ rfl ?_)
          intro t2 c2 w2 hown hgrow _ _
          have HE := Lib.hid (brow_end HW.out.2 hsz HW.out.1 hown hgrow)
          clear hown hgrow
          go_wp2_with fail
          go_roundw
          case rel => exact ⟨k + 1, kk + 1, L ++ [r], .slice (some ⟨t2, 0, none⟩) (L.length + 1) c2, by omega, by omega, by go_num, by go_num, rfl, by rw [List.length_append, List.length_singleton, HLL.out], HN, HE⟩
          case measure => simp [intOf]; omega
        · have c2 : decide (kk < n) = false := by simp; omega
          have hr2 : r = false := by
            rw [hr]; simp only [List.getD]; rw [List.getElem?_eq_none (by rw [← HNN.out]; omega)]; rfl
          subst hr2
          clear g0 hgg hL hr hkn
          go_wp2_with (at_builtin; refine wpList_append_lies _ rfl (.tmp 21) (.tmp 32) 35 rfl w.heap.size 4 i0 (.bool false) 1 1 Try.underlying35 hj hz0 hz1 hz2 rfl (by decide) lv L.length (L.map Value.bool) rfl HROW.out ⟨wo.heap.size, 0, none⟩ 1 1 [.bool false] rfl rfl (news1 _ _ _) (one_bool _) (by omega) (by unfold maxLen; omega) (by omega) (by simp; omega) _ rfl ?_)
          intro t2 c2' w2 hown hgrow _ _
          have HE := Lib.hid (brow_end HW.out.2 hsz HW.out.1 hown hgrow)
          clear hown hgrow
          go_wp2_with fail
          go_roundw
          case rel => exact ⟨k + 1, kk + 1, L ++ [false], .slice (some ⟨t2, 0, none⟩) (L.length + 1) c2', by omega, by omega, by go_num, by go_num, rfl, by rw [List.length_append, List.length_singleton, HLL.out], HN, HE⟩
          case measure => simp [intOf]; omega
      · have c1 : decide (p < 0) = false := decide_eq_false g0
        obtain ⟨g1, g2, g3⟩ := hgg (by omega)
        obtain ⟨x, rfl⟩ := Int.eq_ofNat_of_zero_le (show 0 ≤ p by omega)
        obtain ⟨y, rfl⟩ := Int.eq_ofNat_of_zero_le g2
        have HN0 : Hid (st ins ((ns.map absN).take (k + 1)) = (L ++ [ev L x && ev L y], kk)) := Lib.hid (by rw [HS2.out]; unfold absN; rw [if_neg g0]; rfl)
        have HKB := Lib.hid (kb_row HW.out.1)
        have hx : x / 2 < L.length := by omega
        have hy : y / 2 < L.length := by omega
        clear hgg g0 g1 g2 g3 hL
        cases hvx : ev L x
        · have HVX := Lib.hid hvx
          have HN : Hid (st ins ((ns.map absN).take (k + 1)) = (L ++ [false], kk)) := Lib.hid (by rw [HN0.out, hvx]; rfl)
          have HROW := Lib.hid (own_on HW.out.1 ((Below.refl _ wo).alloc (Nat.le_refl _) (.cells #[.bool false] 4)))
          clear hvx
          go_wp2_with fail
          go_at_call 32; refine (refOf_of HVX.out _ HKB.out hx).mono ?_; rintro e w' ⟨rfl, rfl⟩
          go_wp2_with (at_builtin; refine wpList_append_lies _ rfl (.tmp 36) (.tmp 53) 35 rfl w.heap.size 4 i0 (.bool false) 1 1 Try.underlying35 hj hz0 hz1 hz2 rfl (by decide) lv L.length (L.map Value.bool) rfl HROW.out ⟨wo.heap.size, 0, none⟩ 1 1 [.bool false] rfl rfl (news1 _ _ _) (one_bool _) (by omega) (by unfold maxLen; omega) (by omega) (by simp; omega) _ rfl ?_)
          intro t2 c2' w2 hown hgrow _ _
          have HE := Lib.hid (brow_end HW.out.2 hsz HW.out.1 hown hgrow)
          clear hown hgrow
          go_wp2_with fail
          go_roundw
          case rel => exact ⟨k + 1, kk, L ++ [false], .slice (some ⟨t2, 0, none⟩) (L.length + 1) c2', by omega, by omega, by go_num, rfl, rfl, by rw [List.length_append, List.length_singleton, HLL.out], HN, HE⟩
          case measure => simp [intOf]; omega
        · have HVX := Lib.hid hvx
          obtain ⟨r, hr⟩ : ∃ r, r = ev L y := ⟨_, rfl⟩
          have HVY := Lib.hid hr
          have HN : Hid (st ins ((ns.map absN).take (k + 1)) = (L ++ [r], kk)) := Lib.hid (by rw [HN0.out, hvx, hr]; simp)
          have HROW := Lib.hid (own_on HW.out.1 ((Below.refl _ wo).alloc (Nat.le_refl _) (.cells #[.bool r] 4)))
          clear hvx hr
          go_wp2_with fail
          go_at_call 32; refine (refOf_of HVX.out _ HKB.out hx).mono ?_; rintro e w' ⟨rfl, rfl⟩
          go_wp2_with fail
          go_at_call 32; refine (refOf_of HVY.out.symm _ HKB.out hy).mono ?_; rintro e w' ⟨rfl, rfl⟩
          go_wp2_with (at_builtin; refine wpList_append_lies _ rfl (.tmp 36) (.tmp 53) 35 rfl w.heap.size 4 i0 (.bool false) 1 1 Try.underlying35 hj hz0 hz1 hz2 rfl (by decide) lv L.length (L.map Value.bool) rfl HROW.out ⟨wo.heap.size, 0, none⟩ 1 1 [.bool r] rfl rfl (news1 _ _ _) (one_bool _) (by omega) (by unfold maxLen; omega) (by omega) (by simp; omega) _ rfl ?_)
          intro t2 c2' w2 hown hgrow _ _
          have HE := Lib.hid (brow_end HW.out.2 hsz HW.out.1 hown hgrow)
          clear hown hgrow
          go_wp2_with fail
          go_roundw
          case rel => exact ⟨k + 1, kk, L ++ [r], .slice (some ⟨t2, 0, none⟩) (L.length + 1) c2', by omega, by omega, by go_num, rfl, rfl, by rw [List.length_append, List.length_singleton, HLL.out], HN, HE⟩
          case measure => simp [intOf]; omega
    · obtain rfl : m = k := by omega
      have HE : Hid (ToldB (st ins (ns.map absN)).1 w (.returned lv) wo) := Lib.hid (by
        have e := HST.out
        rw [HM.out, show ns.length = (ns.map absN).length by simp, List.take_length] at e
        rw [e]; exact ⟨lv, rfl, HW.out.1, HW.out.2⟩)
      clear hlt hk hL
      go_wp2_with fail
      go_ret
      exact HE.out
end Go.Proofs.Ytoacedadfjoneaa.aig
