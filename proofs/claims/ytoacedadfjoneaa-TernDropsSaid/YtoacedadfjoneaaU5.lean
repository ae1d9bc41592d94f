/- The walk of the statement on inputs that are dropped. (Printed by mkU5.py.) -/
import Derived.Test.YtoacedadfjoneaaU4
namespace Go.Proofs.Ytoacedadfjoneaa.ints
open Go.RowKit
/-- 'append([]int{}, l...)': a slice of its own that is known whole -/
theorem wpList_cloneO {ops : Array Oper} {rest : List Oper} {o : Oper} {act : Act} {Q : Exit → Act → World → Prop} (w : World) (hgd : Region.wanted o (yielded ops act.tmps) = true) (s x : Operand)
    (ho : o.op = .call { callee := .builtin .append, args := #[s, x], argTypes := #[23, 23] })
    (hs : act.eval s = .slice (some ⟨w.heap.size, 0, none⟩) 0 0) (a : Option Addr) (n cap : Nat) (ls : List Int) (hx : act.eval x = .slice a n cap)
    (hv : Ints w (.slice a n cap) ls) (hnil : a = none → n = 0 ∧ cap = 0) (hsz : n * 8 ≤ 140737488355328)
    (h : ∀ v' w', w'.ownsRow w.heap.size 3 1 v' ls.length (ls.map (Value.int .i64)) → Below w.heap.size w w' → wpList Try.prog ops Q rest (act.put o.dst v') w') :
    wpList Try.prog ops Q (o :: rest) act (w.alloc (.cells #[] 3)) := by
  obtain ⟨i0, hi, hz0, hz1, hz2⟩ := info_parts infoInt
  have hmade : (w.alloc (.cells #[] 3)).ownsRow w.heap.size 3 1 (.slice (some ⟨w.heap.size, 0, none⟩) 0 0) 0 [] := World.ownsRow_made _ #[] 0 (Nat.le_refl _) (by unfold maxLen; omega) rfl
  have hb0 : Below w.heap.size w (w.alloc (.cells #[] 3)) := (Below.refl _ w).alloc (Nat.le_refl _) _
  obtain ⟨hlen, hcap, hmax⟩ := ints_len_of hv
  unfold maxLen at hmax
  refine wpList_step fun K hK => ?_
  rw [if_pos hgd]
  cases a with
  | none =>
    obtain ⟨rfl, rfl⟩ := hnil rfl
    obtain rfl : ls = [] := List.length_eq_zero_iff.1 hlen
    have hrun := run_append_owned_none (P := Try.prog) (w := w.alloc (.cells #[] 3)) w.heap.size 23 o.type 3 i0 1 Try.underlying23 hi _ _ _ hmade
    have h1 := hK _ _ (h (.slice (some ⟨w.heap.size, 0, none⟩) 0 0) (w.alloc (.cells #[] 3)) hmade hb0)
    unfold Oper.wp
    simp [execOp, ho, resolve, invoke, builtin, hs, hx, hrun, Result.andThen]
    exact h1
  | some ad =>
    refine wp_append_own _ s x 23 ho w.heap.size 3 i0 (.int .i64 0) 1 8 Try.underlying23 hi hz0 hz1 hz2 rfl (by decide) _ _ _ hs hmade ad n cap (ls.map (Value.int .i64)) hx (by simp [hlen]) (news_of hv hb0) (ints_oneCell _ ls) (by unfold maxLen; omega) (by omega) (by simp) ?_
    intro v1 w1 hown1 hgrow _
    exact hK _ _ (h _ _ (by rw [hlen]; simpa using hown1) (hb0.grown hgrow (by simp) (fun k hk => (hmade.lt k hk).1)))

end Go.Proofs.Ytoacedadfjoneaa.ints
namespace Go.Proofs.Ytoacedadfjoneaa.aig
open Go.RowKit
open Go.Proofs.Ytoacedadfjoneaa.mem Go.Proofs.Ytoacedadfjoneaa.agf Go.Proofs.Ytoacedadfjoneaa.fns
open Go.Proofs.Ytoacedadfjoneaa.ints (Ints ints_of_owned refInts_same wpList_clone wpList_cloneO)

theorem tDrop_no_more {N : Net} {ins ls : List Int} {ks : List Bool} {k : Nat} (hk : k < (tDrop N ins ls ks).length) (h2 : (tDrop N ins ls ks).getD k 0 ≠ 2) (hkeep : keepB ks k = false) :
    tSure N ((tDrop N ins ls ks).set k 2) ls = false := by
  unfold tDrop at hk h2 ⊢
  split at hk
  · rename_i h
    rw [if_pos h] at h2 ⊢
    rw [drop_len] at hk
    exact drop_no_more hk hk h2 hkeep
  · simp at hk
theorem tDrop_len (N : Net) (ins ls : List Int) (ks : List Bool) : (tDrop N ins ls ks).length ≤ N.length := by
  unfold tDrop
  split
  · rw [drop_len, startL_len]
    unfold cntI
    exact Nat.le_trans (List.length_filter_le _ _) (by simp)
  · simp
set_option maxRecDepth 100000 in
set_option maxHeartbeats 3200000 in
theorem drops10_any (C : TernOk) (v kv : Value) (ns : List (Int × Int)) (a : Option Addr) (n cap : Nat) (zs : List Int) (la : Option Addr) (ln lcap : Nat) (ls : List Int) (ks : List Bool) (W : World) (hv : KNds (fun _ => False) W v ns) (hu : Ints W (.slice a n cap) zs) (hnil : a = none → n = 0 ∧ cap = 0)
    (hl : Ints W (.slice la ln lcap) ls) (hlnil : la = none → ln = 0 ∧ lcap = 0) (hkb : KB W kv ks) (hks : ks.length ≤ 140737488355328) :
    Calls Try.prog 4 #[v, .slice a n cap, .slice la ln lcap, kv] W fun e w' => e = .returned (.bool true) ∧ Below W.heap.size W w' := by
  have HV := Lib.hid hv
  have HU := Lib.hid hu
  have HNIL := Lib.hid hnil
  have HL := Lib.hid hl
  have HLNIL := Lib.hid hlnil
  have HK := Lib.hid hkb
  have HKS := Lib.hid hks
  obtain ⟨ka, kcap, rfl, k1, k2⟩ := hkb.form
  unfold maxLen at k2
  have HKN : Hid (∀ n c, Value.slice ka ks.length kcap = .slice none n c → n = 0) := Lib.hid (fun n c e => by
    obtain ⟨rfl, e2, rfl⟩ := Value.slice.inj e
    obtain ⟨a', cap', hs, q1, q2, hc⟩ := hkb
    by_cases h0 : 0 < ks.length
    · obtain ⟨b, off, hb, -⟩ := hc h0
      obtain ⟨e3, -, -⟩ := Value.slice.inj hs
      rw [← e3] at hb; cases hb
    · omega)
  obtain ⟨nk, hnk⟩ : ∃ nk, nk = ks.length := ⟨_, rfl⟩
  rw [← hnk] at k1 HK HKN ⊢
  have HNK := Lib.hid hnk
  obtain ⟨a', cap', hs, u1, u2⟩ := Ints.form hu
  obtain ⟨rfl, hn, rfl⟩ := Value.slice.inj hs
  unfold maxLen at u2
  rw [← hn] at u1
  have HN := Lib.hid hn
  obtain ⟨a', cap', hs2, l1, l2⟩ := Ints.form hl
  obtain ⟨rfl, hln, rfl⟩ := Value.slice.inj hs2
  unfold maxLen at l2
  rw [← hln] at l1
  have HLN := Lib.hid hln
  obtain ⟨va, vcap, rfl, v1, v2⟩ := hv.form
  unfold maxLen at v2
  clear hv hu hnil hl hlnil hkb hks hnk hn hs hln hs2
  by_cases hsm : (ns.length : Int) ≤ 40 ∧ okB ns = true
  · have HSM := Lib.hid (small_yes hsm)
    have HG := Lib.hid (okB_good hsm.2)
    have HNL : Hid (ns.length ≤ 1000) := Lib.hid (by omega)
    obtain ⟨m, hm⟩ : ∃ m, m = ns.length := ⟨_, rfl⟩
    have hm40 : m ≤ 40 := by omega
    have HM := Lib.hid hm
    rw [← hm] at v1 HV ⊢
    clear hsm hm
    by_cases c1 : n ≤ 80
    · have d1 : decide (80 < (n : Int)) = false := by simp; omega
      have HZL : Hid (zs.length ≤ 1000) := Lib.hid (by have := HN.out; omega)
      by_cases c2 : ln ≤ 20
      · have d2 : decide (20 < (ln : Int)) = false := by simp; omega
        have HLL : Hid (ls.length ≤ 1000) := Lib.hid (by have := HLN.out; omega)
        go_enter Try.func4, Try.ntmps4
        go_wp2_with fail
        go_at_call 6; refine (Small8_of HSM.out _ HV.out (by omega) (by omega)).mono ?_; rintro e w' ⟨rfl, rfl⟩
        go_wp2_with (at_builtin; refine wpList_clone _ rfl _ _ rfl rfl a n cap zs rfl HU.out HNIL.out (by omega) ?_)
        intro o1 x1 p1 b1
        have HB1 := Lib.hid b1
        have HO1 := Lib.hid p1
        clear p1 b1
        go_wp2_with (at_builtin; refine wpList_clone _ rfl _ _ rfl rfl la ln lcap ls rfl (Ints.on HL.out HB1.out) HLNIL.out (by omega) ?_)
        intro o2 x2 p2 b2
        have HB2 := Lib.hid (HB1.out.trans (b2.mono HB1.out.size))
        have HO2 := Lib.hid p2
        have HO1' := Lib.hid (Ints.on HO1.out b2)
        clear p2 b2 HO1
        go_wp2_with fail
        go_at_call 13; refine (C.sure _ _ _ ns zs ls _ (HV.out.on HB2.out) HG.out HNL.out HO1'.out HZL.out HO2.out HLL.out).mono ?_; rintro e x3 ⟨rfl, b3⟩
        have HB3 := Lib.hid (HB2.out.trans (b3.mono HB2.out.size))
        clear b3 HO1' HO2
        go_wp2_with fail
        go_at_call 14; refine (refSure_any _ _ _ _ ns zs ls _ (HV.out.on HB3.out) HNL.out HG.out (Ints.on HU.out HB3.out) (Ints.on HL.out HB3.out)).mono ?_; rintro e x4 ⟨rfl, b4⟩
        have HB4 := Lib.hid (HB3.out.trans (b4.mono HB3.out.size))
        clear b4
        obtain ⟨s, hs⟩ : ∃ s, s = tSure (ns.map absN) zs ls := ⟨_, rfl⟩
        rw [← hs]
        have c3 : (s != s) = false := by simp
        clear hs
        go_wp2_with (at_builtin; refine wpList_clone _ rfl _ _ rfl rfl a n cap zs rfl (Ints.on HU.out HB4.out) HNIL.out (by omega) ?_)
        intro o5 x5 p5 b5
        have HB5 := Lib.hid (HB4.out.trans (b5.mono HB4.out.size))
        have HO5 := Lib.hid p5
        clear p5 b5
        go_wp2_with (at_builtin; refine wpList_clone _ rfl _ _ rfl rfl la ln lcap ls rfl (Ints.on HL.out HB5.out) HLNIL.out (by omega) ?_)
        intro o6 x6 p6 b6
        have HB6 := Lib.hid (HB5.out.trans (b6.mono HB5.out.size))
        have HO6 := Lib.hid p6
        have HO5' := Lib.hid (Ints.on HO5.out b6)
        clear p6 b6 HO5
        go_wp2_with (at_builtin; refine wpList_cloneK _ rfl _ _ rfl rfl (.slice ka nk kcap) ks rfl (HK.out.on HB6.out) HKN.out HKS.out ?_)
        intro o7 x7 p7 b7
        have HB7 := Lib.hid (HB6.out.trans (b7.mono HB6.out.size))
        have HO7 := Lib.hid p7
        have HO5'' := Lib.hid (Ints.on HO5'.out b7)
        have HO6' := Lib.hid (Ints.on HO6.out b7)
        clear p7 b7 HO5' HO6
        go_wp2_with fail
        go_at_call 15; refine (C.drop _ _ _ _ ns zs ls ks _ (HV.out.on HB7.out) HG.out HNL.out HO5''.out HZL.out HO6'.out HLL.out HO7.out).mono ?_; rintro e x8 ⟨u8, rfl, t8, b8⟩
        have HB8 := Lib.hid (HB7.out.trans (b8.mono HB7.out.size))
        have HT8 := Lib.hid t8
        clear t8 b8 HO5'' HO6' HO7
        go_wp2_with fail
        go_at_call 16; refine (refDrop_any _ _ _ _ ns zs ls ks _ (HV.out.on HB8.out) HNL.out HG.out (Ints.on HU.out HB8.out) (Ints.on HL.out HB8.out) (HK.out.on HB8.out)).mono ?_; rintro e x9 h9
        obtain ⟨u9, rfl, t9, b9⟩ := told_tellsI h9
        have HB9 := Lib.hid (HB8.out.trans (b9.mono HB8.out.size))
        have HT9 := Lib.hid t9
        have HT8' := Lib.hid (Ints.on HT8.out b9)
        clear h9 t9 b9 HT8
        go_wp2_with fail
        go_at_call 8; refine (refInts_same rfl HT8'.out HT9.out).mono ?_; rintro e xa ⟨rfl, ba⟩
        have HBA := Lib.hid (HB9.out.trans (ba.mono HB9.out.size))
        have HTA := Lib.hid (Ints.on HT8'.out ba)
        clear ba HT8' HT9
        have HGN : Hid ((tDrop (ns.map absN) zs ls ks).length ≤ 40) := Lib.hid (by
          have := tDrop_len (ns.map absN) zs ls ks
          rw [List.length_map, ← HM.out] at this; omega)
        have HNM := Lib.hid (fun k hk h2 h3 => tDrop_no_more (N := ns.map absN) (ins := zs) (ls := ls) (ks := ks) (k := k) hk h2 h3)
        obtain ⟨G, hG⟩ : ∃ G, G = tDrop (ns.map absN) zs ls ks := ⟨_, rfl⟩
        rw [← hG] at HTA HGN HNM
        obtain ⟨ga, gcap, rfl, g1, g2⟩ := Ints.form HTA.out
        unfold maxLen at g2
        obtain ⟨q, hq⟩ : ∃ q, q = G.length := ⟨_, rfl⟩
        rw [← hq] at g1 HTA HGN HNM ⊢
        have HQ := Lib.hid hq
        have hq40 := HGN.out
        clear hG hq HGN
        go_wp2_with fail
        go_loopw [10] (fun i wr => ∃ k : Nat, k ≤ q ∧ i = .int .i64 k ∧ Hid (Below W.heap.size W wr ∧ Below xa.heap.size xa wr)) (fun i _ => q - (intOf i).toNat)
        case atStart => exact ⟨0, Nat.zero_le _, rfl, Lib.hid ⟨HBA.out, Below.refl _ _⟩⟩
        case round =>
          obtain ⟨k, hk, rfl, HW⟩ := hrel
          obtain ⟨wo, rfl⟩ : ∃ wo : World, wo = wr := ⟨_, rfl⟩
          by_cases hlt : k < q
          · have HGO := Lib.hid (Ints.on HTA.out HW.out.2)
            obtain ⟨b, off, rfl, -, e1⟩ := Ints.at_ HGO.out hlt
            obtain ⟨x, hx⟩ : ∃ x, x = G.getD k 0 := ⟨_, rfl⟩
            have HNM1 := Lib.hid (HNM.out k hlt)
            rw [← hx] at e1 HNM1
            have d3 : (k : Int) < (q : Int) := by omega
            have d4 : 0 ≤ (k : Int) := by omega
            clear hx
            by_cases h2 : x = 2
            · subst h2
              go_wp2_with fail
              go_roundw
              case rel => exact ⟨k + 1, by omega, by go_num, HW⟩
              case measure => simp [intOf]; omega
            · have c5 : (x == 2) = false := by simpa using h2
              have HNM2 := Lib.hid (HNM1.out h2)
              clear h2
              cases hkp : keepB ks k with
              | true =>
                have hkn : k < nk := by
                  by_cases h : k < nk
                  · exact h
                  · unfold keepB at hkp; rw [getD_none (by rw [← HNK.out]; omega)] at hkp; cases hkp
                obtain ⟨b', off', rfl, -, e3⟩ := (HK.out.on HW.out.1).at_ hkn
                rw [show ks.getD k false = true from hkp] at e3
                have d5 : (k : Int) < (nk : Int) := by omega
                clear hkp
                go_wp2_with fail
                go_roundw
                case rel => exact ⟨k + 1, by omega, by go_num, HW⟩
                case measure => simp [intOf]; omega
              | false =>
                have HF := Lib.hid (HNM2.out hkp)
                have HGL : Hid (G.length ≤ 1000) := Lib.hid (by rw [← HQ.out]; omega)
                by_cases hkn : k < nk
                · obtain ⟨b', off', rfl, -, e3⟩ := (HK.out.on HW.out.1).at_ hkn
                  rw [show ks.getD k false = false from hkp] at e3
                  have d5 : (k : Int) < (nk : Int) := by omega
                  clear hkp
                  go_wp2_with (at_builtin; refine wpList_cloneO _ rfl _ _ rfl rfl (some ⟨b, off, none⟩) q gcap G rfl HGO.out (fun e => by cases e) (by omega) ?_)
                  intro ov y1 r1 c1
                  rw [← HQ.out] at r1
                  obtain ⟨lg, lc, rfl⟩ := Joins.ownsRow_form r1 (by omega)
                  have HR1 := Lib.hid r1
                  have HY1 := Lib.hid (HW.out.1.trans (c1.mono HW.out.1.size))
                  have HX1 := Lib.hid (HW.out.2.trans (c1.mono HW.out.2.size))
                  have f1 := r1.frozenAt k
                  have z1 := r1.cellAt k (by omega)
                  obtain ⟨u1', hu1⟩ : ∃ u, (G.map (Value.int .i64))[k]? = some u := ⟨_, List.getElem?_eq_getElem (by rw [List.length_map, ← HQ.out]; exact hlt)⟩
                  rw [hu1] at z1
                  have HLG := Lib.hid (r1.lt lg rfl).1
                  have HR2 : Hid (Ints (y1.setCell ⟨lg, k, none⟩ (.int .i64 2)) (.slice (some ⟨lg, 0, none⟩) q lc) (G.set k 2)) := Lib.hid (by
                    have h := (HR1.out.stored k (.int .i64 2)).1
                    rw [← List.map_set] at h
                    have e : q = (G.set k 2).length := by rw [List.length_set]; exact HQ.out
                    rw [e] at h ⊢; exact ints_of_owned h)
                  have HY2 : Hid (Below W.heap.size W (y1.setCell ⟨lg, k, none⟩ (.int .i64 2))) := Lib.hid (HY1.out.setCell (p := ⟨lg, k, none⟩) (Nat.le_trans HW.out.1.size HLG.out) _)
                  have HX2 : Hid (Below xa.heap.size xa (y1.setCell ⟨lg, k, none⟩ (.int .i64 2))) := Lib.hid (HX1.out.setCell (p := ⟨lg, k, none⟩) (Nat.le_trans HW.out.2.size HLG.out) _)
                  clear r1 c1 hu1
                  go_upto_region 14 with fail
                  obtain ⟨Y2, hY2⟩ : ∃ Y2, Y2 = y1.setCell ⟨lg, k, none⟩ (.int .i64 2) := ⟨_, rfl⟩
                  rw [← hY2] at HR2 HY2 HX2 ⊢
                  clear hY2 f1 z1
                  go_wp2_with fail
                  go_at_call 13; refine (C.sure _ _ _ ns (G.set k 2) ls _ (HV.out.on HY2.out) HG.out HNL.out HR2.out (by rw [List.length_set]; exact HGL.out) (Ints.on HL.out HY2.out) HLL.out).mono ?_; rintro e y3 ⟨rfl, b3⟩
                  rw [HF.out]
                  have HE := Lib.hid (And.intro (HY2.out.trans (b3.mono HY2.out.size)) (HX2.out.trans (b3.mono HX2.out.size)))
                  clear b3
                  go_wp2_with fail
                  go_roundw
                  case rel => exact ⟨k + 1, by omega, by go_num, HE⟩
                  case measure => simp [intOf]; omega
                · have d5 : decide (k < nk) = false := by simp; omega
                  clear hkp
                  go_wp2_with (at_builtin; refine wpList_cloneO _ rfl _ _ rfl rfl (some ⟨b, off, none⟩) q gcap G rfl HGO.out (fun e => by cases e) (by omega) ?_)
                  intro ov y1 r1 c1
                  rw [← HQ.out] at r1
                  obtain ⟨lg, lc, rfl⟩ := Joins.ownsRow_form r1 (by omega)
                  have HR1 := Lib.hid r1
                  have HY1 := Lib.hid (HW.out.1.trans (c1.mono HW.out.1.size))
                  have HX1 := Lib.hid (HW.out.2.trans (c1.mono HW.out.2.size))
                  have f1 := r1.frozenAt k
                  have z1 := r1.cellAt k (by omega)
                  obtain ⟨u1', hu1⟩ : ∃ u, (G.map (Value.int .i64))[k]? = some u := ⟨_, List.getElem?_eq_getElem (by rw [List.length_map, ← HQ.out]; exact hlt)⟩
                  rw [hu1] at z1
                  have HLG := Lib.hid (r1.lt lg rfl).1
                  have HR2 : Hid (Ints (y1.setCell ⟨lg, k, none⟩ (.int .i64 2)) (.slice (some ⟨lg, 0, none⟩) q lc) (G.set k 2)) := Lib.hid (by
                    have h := (HR1.out.stored k (.int .i64 2)).1
                    rw [← List.map_set] at h
                    have e : q = (G.set k 2).length := by rw [List.length_set]; exact HQ.out
                    rw [e] at h ⊢; exact ints_of_owned h)
                  have HY2 : Hid (Below W.heap.size W (y1.setCell ⟨lg, k, none⟩ (.int .i64 2))) := Lib.hid (HY1.out.setCell (p := ⟨lg, k, none⟩) (Nat.le_trans HW.out.1.size HLG.out) _)
                  have HX2 : Hid (Below xa.heap.size xa (y1.setCell ⟨lg, k, none⟩ (.int .i64 2))) := Lib.hid (HX1.out.setCell (p := ⟨lg, k, none⟩) (Nat.le_trans HW.out.2.size HLG.out) _)
                  clear r1 c1 hu1
                  go_upto_region 14 with fail
                  obtain ⟨Y2, hY2⟩ : ∃ Y2, Y2 = y1.setCell ⟨lg, k, none⟩ (.int .i64 2) := ⟨_, rfl⟩
                  rw [← hY2] at HR2 HY2 HX2 ⊢
                  clear hY2 f1 z1
                  go_wp2_with fail
                  go_at_call 13; refine (C.sure _ _ _ ns (G.set k 2) ls _ (HV.out.on HY2.out) HG.out HNL.out HR2.out (by rw [List.length_set]; exact HGL.out) (Ints.on HL.out HY2.out) HLL.out).mono ?_; rintro e y3 ⟨rfl, b3⟩
                  rw [HF.out]
                  have HE := Lib.hid (And.intro (HY2.out.trans (b3.mono HY2.out.size)) (HX2.out.trans (b3.mono HX2.out.size)))
                  clear b3
                  go_wp2_with fail
                  go_roundw
                  case rel => exact ⟨k + 1, by omega, by go_num, HE⟩
                  case measure => simp [intOf]; omega
          · obtain rfl : q = k := by omega
            have HWB := Lib.hid HW.out.1
            clear hlt hk HW
            go_wp2_with fail
            go_at_call 7; refine (lives10_any C _).mono ?_; rintro e wb ⟨rfl, bb⟩
            have HBB := Lib.hid (HWB.out.trans (bb.mono HWB.out.size))
            clear bb
            go_wp2_with fail
            go_ret
            exact ⟨rfl, HBB.out⟩
      · have d2 : decide (20 < (ln : Int)) = true := by simp; omega
        go_enter Try.func4, Try.ntmps4
        go_wp2_with fail
        go_at_call 6; refine (Small8_of HSM.out _ HV.out (by omega) (by omega)).mono ?_; rintro e w' ⟨rfl, rfl⟩
        go_wp2_with fail
        go_at_call 7; refine (lives10_any C _).mono ?_; rintro e wb ⟨rfl, bb⟩
        have HBB := Lib.hid bb
        clear bb
        go_wp2_with fail
        go_ret
        exact ⟨rfl, HBB.out⟩
    · have d1 : decide (80 < (n : Int)) = true := by simp; omega
      go_enter Try.func4, Try.ntmps4
      go_wp2_with fail
      go_at_call 6; refine (Small8_of HSM.out _ HV.out (by omega) (by omega)).mono ?_; rintro e w' ⟨rfl, rfl⟩
      go_wp2_with fail
      go_at_call 7; refine (lives10_any C _).mono ?_; rintro e wb ⟨rfl, bb⟩
      have HBB := Lib.hid bb
      clear bb
      go_wp2_with fail
      go_ret
      exact ⟨rfl, HBB.out⟩
  · have HSM := Lib.hid (small_no hsm)
    clear hsm
    go_enter Try.func4, Try.ntmps4
    go_wp2_with fail
    go_at_call 6; refine (Small8_of HSM.out _ HV.out (by omega) (by omega)).mono ?_; rintro e w' ⟨rfl, rfl⟩
    go_wp2_with fail
    go_at_call 7; refine (lives10_any C _).mono ?_; rintro e wb ⟨rfl, bb⟩
    have HBB := Lib.hid bb
    clear bb
    go_wp2_with fail
    go_ret
    exact ⟨rfl, HBB.out⟩
end Go.Proofs.Ytoacedadfjoneaa.aig
