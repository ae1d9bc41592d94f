/- The walk of the project's Drop; all that the project's values that may be open have to be. -/
import Derived.Test.YtoacedadfjoneaaWj
namespace Go.Proofs.Ytoacedadfjoneaa.aig
open Go.RowKit
open Go.Proofs.Ytoacedadfjoneaa.mem Go.Proofs.Ytoacedadfjoneaa.agf Go.Proofs.Ytoacedadfjoneaa.fns
open Go.Proofs.Ytoacedadfjoneaa.ints (Ints ints_of_owned below_drewN)
open Go.Proofs.Ytoacedadfjoneaa.tri (tLit)

/-- what stands while inputs are dropped: O the inputs' values by now, L those that are told already -/
def DropJ (d : DC) (B : Nat) (ls O : List Int) (W2 wr : World) (lv : Value) (L : List Int) (M : List Bool) : Prop :=
  DpB d B wr (tSt O (d.ns.map absN)).1 M ∧ Moved (DB d.tv d.tm B) (DB d.tv d.tm B) W2 wr ∧ wr.ownsRow B 3 1 lv L.length (L.map (Value.int .i64)) ∧ (∀ m, M.getD m false = true → Fo (d.ns.map absN) ls O m) ∧ ∀ x ∈ ls, M.getD (litVar x).toNat false = true
/-- behind drop -/
theorem DropJ.drop {d : DC} {B k : Nat} {ls O O' : List Int} {W2 wr w' : World} {lv : Value} {L : List Int} {M : List Bool} {e : Ending} (h : DropJ d B ls O W2 wr lv L M) (hd : DropT d wr.heap.size ls O M k wr e w') (hO : outN (d.ns.map absN) ls O k = O') :
    e = .returned (.tuple #[]) ∧ ∃ M', DropJ d B ls O' W2 w' lv L M' := by
  obtain ⟨he, M', h1, h2, h3, h4⟩ := hd
  obtain ⟨g1, g2, g3, g4, g5⟩ := h
  obtain ⟨l1, l2, l3, l4⟩ := g1.low
  obtain ⟨j1, j2⟩ := g1.join h1 h2 l4
  rw [hO] at j1 h3
  refine ⟨he, M', j1, g2.trans j2, own_moved g3 h2 (fun k hk e => ?_), h3, fun x hx => h4 _ (g5 x hx)⟩
  have := g3.lt k hk
  rcases e with e | e | e <;> omega
set_option maxRecDepth 100000 in
set_option maxHeartbeats 3200000 in
theorem tDrop_any (v u l kv : Value) (ns : List (Int × Int)) (zs ls : List Int) (ks : List Bool) (w : World) (hv : KNds (fun _ => False) w v ns) (hg : GoodN ns) (hn : ns.length ≤ 1000) (hu : Ints w u zs) (hzl : zs.length ≤ 1000) (hl : Ints w l ls) (hk : KB w kv ks) :
    Calls Try.prog 15 #[v, u, l, kv] w (TellsI (tDrop (ns.map absN) zs ls ks) w) := by
  obtain ⟨i0, hi, hz0, hz1, hz2⟩ := info_parts infoI
  have HE0 := Lib.hid (tEval_any v u ns zs w hv hg hn hu hzl)
  obtain ⟨S, hS⟩ : ∃ S, S = startL (ns.map absN) zs (ns.map absN).length := ⟨_, rfl⟩
  have hSV : (tSt S (ns.map absN)).1 = (tSt zs (ns.map absN)).1 := by rw [hS, start_vals]
  have hSS : tSure (ns.map absN) S ls = allOneB (tSt zs (ns.map absN)).1 ls := by rw [← hSV]; rfl
  have HTL : Hid (0 < (tSt zs (ns.map absN)).1.length) := Lib.hid (by rw [tSt_len]; omega)
  have hTD : tDrop (ns.map absN) zs ls ks = if tSure (ns.map absN) S ls then dropTo (ns.map absN) ls ks S S.length else [] := by unfold tDrop; rw [← hS]
  obtain ⟨na, ncap, hnv, l1, l2⟩ := hv.form
  unfold maxLen at l2
  obtain ⟨ua, ucap, rfl, -⟩ := Ints.form hu
  obtain ⟨la, lcap, rfl, -⟩ := Ints.form hl
  obtain ⟨ka, kcap, rfl, k1, k2, -⟩ := id hk
  unfold maxLen at k2
  subst hnv
  obtain ⟨Q, hQ⟩ : ∃ Q, Q = tDrop (ns.map absN) zs ls ks := ⟨_, rfl⟩
  rw [← hQ] at hTD ⊢
  obtain ⟨F, hF⟩ : ∃ F, F = (tSt zs (ns.map absN)).1 := ⟨_, rfl⟩
  rw [← hF] at HE0 hSV hSS HTL
  have HV := Lib.hid hv
  have HL := Lib.hid hl
  have HK := Lib.hid hk
  have HG := Lib.hid hg
  have HN := Lib.hid hn
  have HSV := Lib.hid hSV
  have HSS := Lib.hid hSS
  have HS := Lib.hid hS
  have HF := Lib.hid hF
  have HTD := Lib.hid hTD
  obtain ⟨m, hm⟩ : ∃ m, m = ns.length := ⟨_, rfl⟩
  rw [← hm] at l1 ⊢
  have HM := Lib.hid hm
  rw [← hm] at HE0
  obtain ⟨nk, hnk⟩ : ∃ nk, nk = ks.length := ⟨_, rfl⟩
  rw [← hnk] at k1 ⊢
  have HNK := Lib.hid hnk
  clear hv hl hk hg hn hSV hSS hS hF hTD hQ hm hnk hu
  go_enter Try.func15, Try.ntmps15
  go_wp2_with fail
  go_at_call 9; refine HE0.out.mono ?_; rintro e w1 ⟨fv, rfl, t1, b1⟩
  obtain ⟨fa, fcap, rfl, -⟩ := Ints.form t1
  have HT1 := Lib.hid t1
  have HB1 := Lib.hid b1
  clear t1 b1 HE0
  go_wp2_with fail
  go_at_call 28; refine (allOne_any _ _ F ls _ HT1.out (HL.out.on HB1.out) HTL.out).mono ?_; rintro e w2 ⟨rfl, rfl⟩
  rw [← HSS.out]
  obtain ⟨r, hr⟩ : ∃ r, r = tSure (ns.map absN) S ls := ⟨_, rfl⟩
  have HR := Lib.hid hr
  rw [← hr]
  clear hr
  cases r with
  | false =>
    have HQ : Hid (Q = []) := Lib.hid (by rw [HTD.out, ← HR.out]; rfl)
    have HE : Hid (TellsI Q w (.returned (.slice none 0 0)) w1) := Lib.hid (by rw [HQ.out]; exact ⟨_, rfl, ints.ints_empty _ _ _ (by unfold maxLen; omega), HB1.out⟩)
    go_wp2_with fail
    go_ret
    exact HE.out
  | true =>
    have HQ : Hid (Q = dropTo (ns.map absN) ls ks S S.length) := Lib.hid (by rw [HTD.out, ← HR.out]; rfl)
    have HNW := Lib.hid (new_any (.slice na m ncap) (.slice fa F.length fcap) (.slice la ls.length lcap) ns F ls S w1 (by rw [HM.out]; exact HV.out.on HB1.out) HG.out HN.out HT1.out HSV.out.symm (HL.out.on HB1.out) HR.out.symm)
    go_wp2_with fail
    go_at_call 29; refine HNW.out.mono ?_; rintro e w2 ⟨pv, M0, rfl, ⟨d, rfl, hdn, hdF, hdA, hdp, hdb⟩, hfo, hall⟩
    subst hdn
    subst hdF
    have HDA := Lib.hid hdA
    have HDP := Lib.hid hdp
    have HB2 := Lib.hid (HB1.out.trans (hdb.mono HB1.out.size))
    have HFO := Lib.hid hfo
    have HALL := Lib.hid hall
    have HIN := Lib.hid (inputs_any (fun _ => False) (.slice na m ncap) d.ns w2 (by rw [HM.out]; exact HV.out.on (HB1.out.trans (hdb.mono HB1.out.size))) HN.out)
    have HIB := Lib.hid hdb.size
    clear hdA hdp hdb hfo hall HNW HT1
    go_wp2_with fail
    go_at_call 30; refine HIN.out.mono ?_; rintro e w3 ⟨iv, rfl, ri, bi⟩
    obtain ⟨ia, icap, rfl⟩ := own_sliceI ri
    have hok := inp_ok d.ns d.ns.length (Nat.le_refl _)
    have hSl : S.length = (inpTo d.ns d.ns.length).length := by rw [HS.out, startL_len, hok.1, List.length_map]
    have HOK := Lib.hid hok.2
    have HKI : Hid (KInts (DB d.tv d.tm w3.heap.size) w3 (.slice ia (inpTo d.ns d.ns.length).length icap) (inpTo d.ns d.ns.length)) := Lib.hid (by
      have hlt := HDP.out.lt
      have h := kints_of_owned (P := fun k => k < w2.heap.size) ri (fun k hk => by omega)
      refine h.weak (fun k hk e => ?_)
      rcases e with e | e | e <;> omega)
    have HD3 : Hid (DpB d w3.heap.size w3 (tSt S (d.ns.map absN)).1 M0) := Lib.hid (by rw [HSV.out]; exact (HDP.out.on bi).toB)
    have HB3 := Lib.hid (HB2.out.trans (bi.mono HB2.out.size))
    obtain ⟨I, hI⟩ : ∃ I, I = inpTo d.ns d.ns.length := ⟨_, rfl⟩
    rw [← hI] at HOK HKI hSl ⊢
    obtain ⟨n, hnn⟩ : ∃ n, n = I.length := ⟨_, rfl⟩
    rw [← hnn] at hSl HKI ⊢
    have HNN := Lib.hid hnn
    have HSL := Lib.hid hSl
    have hn2 : n ≤ 1000 := by have h1 := inpTo_len d.ns d.ns.length; rw [← hI, ← hnn] at h1; have := HN.out; omega
    have HQL : Hid (Q.length = n) := Lib.hid (by rw [HQ.out, drop_len, hSl])
    have HA3 : Hid (w.heap.size ≤ d.tv ∧ w.heap.size ≤ d.tm ∧ w.heap.size ≤ w3.heap.size) := Lib.hid (by
      have h1 := HDP.out.lt; have h2 := HDA.out; have h3 := HB1.out.size; have h4 := HB3.out.size; omega)
    have HJ0 : Hid (DropJ d w3.heap.size ls (dropTo (d.ns.map absN) ls ks S 0) w3 w3 (.slice none 0 0) (Q.take 0) M0) := Lib.hid ⟨HD3.out, Moved.refl _ _, World.ownsRow_nil _ _ _ _, HFO.out, HALL.out⟩
    obtain ⟨B, hB⟩ : ∃ B, B = w3.heap.size := ⟨_, rfl⟩
    rw [← hB] at HKI HJ0 HA3
    clear ri bi hok hSl hI hnn hB HD3 HFO HALL HIN HDP HB2 HDA HIB
    go_wp2_with fail
    go_loopw [11, 28] (fun l iv wr => ∃ (j : Nat) (M : List Bool) (lv : Value), j ≤ n ∧ l = lv ∧ iv = .int .i64 j ∧ Hid (DropJ d B ls (dropTo (d.ns.map absN) ls ks S j) w3 wr lv (Q.take j) M)) (fun _ iv _ => n - (intOf iv).toNat)
    case atStart => exact ⟨0, M0, _, Nat.zero_le _, rfl, by go_num, HJ0⟩
    case round =>
      clear HJ0
      obtain ⟨j, M, lv, hj, hlv, rfl, HW⟩ := hrel
      obtain rfl : lv = _ := hlv.symm
      obtain ⟨wo, rfl⟩ : ∃ wo : World, wo = wr := ⟨_, rfl⟩
      by_cases hlt : j < n
      · obtain ⟨bi, oi, rfl, hbl, e1⟩ := (HKI.out.move HW.out.2.1).cell_ hlt
        obtain ⟨i, hin, hgi, hNi, hci⟩ := HOK.out j (by rw [← HNN.out]; exact hlt)
        rw [hgi] at e1
        obtain ⟨v, hv⟩ : ∃ v, v = i + 1 := ⟨_, rfl⟩
        rw [← hv] at e1
        have hvq : v < d.q := by have h1 := HW.out.1.toDp.lens.2.2.2; have h2 := HW.out.1.len; omega
        have hfi := free_in (zs := zs) (ls := ls) (ks := ks) (M := M) HG.out HN.out hNi hci (by rw [← HS.out]; exact HW.out.2.2.2.1)
        rw [← HS.out, ← HF.out, ← hv] at hfi
        have hSt : AllTri S := by rw [HS.out]; exact start_tri _ _
        have hsz : B ≤ wo.heap.size := HW.out.1.low.2.2.2
        have HDR := Lib.hid (dropm_any d wo.heap.size _ _ ls _ M v j wo HW.out.1.toDp.toB hfi HW.out.2.2.2.2 (dropTo_sure HR.out.symm j))
        have hvals : (tSt (dropTo (d.ns.map absN) ls ks S (j + 1)) (d.ns.map absN)).1.getD v 0 = Q.getD j 0 := by
          have hl : j < (dropTo (d.ns.map absN) ls ks S (j + 1)).length := by rw [drop_len, HSL.out]; exact hlt
          rw [hv, tSt_input _ hNi, hci, tIn_tri (dropTo_tri hSt _) hl, HQ.out, dropTo_at _ _ _ _ (show j + 1 ≤ S.length by rw [HSL.out]; omega)]
        have HVA := Lib.hid hvals
        have HVQ := Lib.hid hvq
        have HQS : Hid (Q.take (j + 1) = Q.take j ++ [Q.getD j 0] ∧ (Q.take j).length = j) := Lib.hid (by
          refine ⟨?_, by rw [List.length_take, HQL.out]; omega⟩
          rw [List.take_succ_eq_append_getElem (by rw [HQL.out]; exact hlt)]; simp [List.getD, show j < Q.length by rw [HQL.out]; exact hlt])
        have d1 : (j : Int) < (n : Int) := by omega
        have d2 : 0 ≤ (j : Int) := by omega
        have d3 : (v : Int) < (d.q : Int) := by omega
        have d4 : 0 ≤ (v : Int) := by omega
        have hvs : v ≤ 1001 := by have := HW.out.1.len; omega
        have hj1 : j ≤ 1000 := by omega
        have HSZ := Lib.hid hsz
        clear hin hgi hNi hci hv hvq hfi hSt hsz hvals hbl
        by_cases hjk : j < nk
        · obtain ⟨kb, koff, rfl, kbl, e2⟩ := (HK.out.on (HB3.out.trans (HW.out.2.1.below (fun k hk => by have := HA3.out; rcases hk with e | e | e <;> omega) HB3.out.size))).at_ (show j < ks.length by rw [← HNK.out]; exact hjk)
          have t1 : decide (nk ≤ j) = false := by simp; omega
          have d5 : (j : Int) < (nk : Int) := by omega
          obtain ⟨kk, hkk⟩ : ∃ kk, kk = ks.getD j false := ⟨_, rfl⟩
          rw [← hkk] at e2
          have HKB : Hid (keepB ks j = kk) := Lib.hid hkk.symm
          clear hkk hjk kbl
          cases kk with
          | true =>
            have HJ0 : Hid (DropJ d B ls (dropTo (d.ns.map absN) ls ks S (j + 1)) w3 wo lv (Q.take j) M) := Lib.hid (by
              have e : dropTo (d.ns.map absN) ls ks S (j + 1) = dropTo (d.ns.map absN) ls ks S j := by
                show dropStep (d.ns.map absN) ls ks (dropTo (d.ns.map absN) ls ks S j) j = _
                rw [dropStep_outN, HKB.out]; rfl
              rw [e]; exact HW.out)
            obtain ⟨W4, rfl⟩ : ∃ W4 : World, W4 = wo := ⟨_, rfl⟩
            obtain ⟨M4, rfl⟩ : ∃ M4 : List Bool, M4 = M := ⟨_, rfl⟩
            have HJ := HJ0
            obtain ⟨-, -, -, c3, -⟩ := HJ.out.1.toDp.cG
            obtain ⟨y1, -⟩ := HJ.out.1.toDp.cV HVQ.out
            rw [HVA.out] at y1
            obtain ⟨z, hz⟩ : ∃ z, z = Q.getD j 0 := ⟨_, rfl⟩
            rw [← hz] at y1
            have HZ := Lib.hid hz
            have hbz : B ≤ W4.heap.size := HJ.out.1.low.2.2.2
            have hrow := HJ.out.2.2.1
            rw [HQS.out.2] at hrow
            have HROW := Lib.hid (own_on hrow (alloc_below W4 (.cells #[.int .i64 z] 3)))
            obtain ⟨xa, xc, hlv4⟩ := own_sliceI HJ.out.2.2.1
            rw [HQS.out.2] at hlv4
            subst hlv4
            clear hz hrow
            go_wp2_with (at_builtin; refine wpList_append_lies _ rfl (.tmp 47) (.tmp 55) 23 rfl B 3 i0 (.int .i64 0) 1 8 Try.underlying23 hi hz0 hz1 hz2 rfl (by decide) (.slice xa j xc) j ((Q.take j).map (Value.int .i64)) rfl HROW.out ⟨W4.heap.size, 0, none⟩ 1 1 [.int .i64 z] rfl rfl (news1 _ _ _) (one_cell _) (by omega) (by unfold maxLen; omega) (by omega) (by simp; omega) _ rfl ?_)
            intro t5 c5 w5 hown hgrow hat _
            have HE : Hid (DropJ d B ls (dropTo (d.ns.map absN) ls ks S (j + 1)) w3 w5 (.slice (some ⟨t5, 0, none⟩) (j + 1) c5) (Q.take (j + 1)) M4) := Lib.hid (by
              obtain ⟨g1, g2, g3, g4, g5⟩ := HJ.out
              obtain ⟨g6, g7⟩ := g1.on (alloc_below W4 (.cells #[.int .i64 z] 3))
              obtain ⟨g8, g9⟩ := g6.moved hgrow (fun k hk => (g3.lt k (by rw [← hk])).1)
              refine ⟨g8, (g2.trans g7).trans g9, ?_, g4, g5⟩
              rw [HQS.out.1, ← HZ.out, List.length_append, List.length_singleton, HQS.out.2, ← map_snocI, List.map_take]
              exact hown)
            clear hown hgrow hat c3 y1 hbz
            go_wp2_with fail
            go_roundw
            case rel => exact ⟨j + 1, M4, _, by omega, rfl, by go_num, HE⟩
            case measure => simp [intOf]; omega
          | false =>
            have HO : Hid (outN (d.ns.map absN) ls (dropTo (d.ns.map absN) ls ks S j) j = dropTo (d.ns.map absN) ls ks S (j + 1)) := Lib.hid (by
              show _ = dropStep (d.ns.map absN) ls ks (dropTo (d.ns.map absN) ls ks S j) j
              rw [dropStep_outN, HKB.out]; rfl)
            go_wp2_with fail
            go_at_call 31; refine HDR.out.mono ?_; rintro e W4 hdt
            obtain ⟨rfl, M4, hj4⟩ := HW.out.drop hdt HO.out
            have HJ := Lib.hid hj4
            clear hdt hj4
            obtain ⟨-, -, -, c3, -⟩ := HJ.out.1.toDp.cG
            obtain ⟨y1, -⟩ := HJ.out.1.toDp.cV HVQ.out
            rw [HVA.out] at y1
            obtain ⟨z, hz⟩ : ∃ z, z = Q.getD j 0 := ⟨_, rfl⟩
            rw [← hz] at y1
            have HZ := Lib.hid hz
            have hbz : B ≤ W4.heap.size := HJ.out.1.low.2.2.2
            have hrow := HJ.out.2.2.1
            rw [HQS.out.2] at hrow
            have HROW := Lib.hid (own_on hrow (alloc_below W4 (.cells #[.int .i64 z] 3)))
            obtain ⟨xa, xc, hlv4⟩ := own_sliceI HJ.out.2.2.1
            rw [HQS.out.2] at hlv4
            subst hlv4
            clear hz hrow
            go_wp2_with (at_builtin; refine wpList_append_lies _ rfl (.tmp 47) (.tmp 55) 23 rfl B 3 i0 (.int .i64 0) 1 8 Try.underlying23 hi hz0 hz1 hz2 rfl (by decide) (.slice xa j xc) j ((Q.take j).map (Value.int .i64)) rfl HROW.out ⟨W4.heap.size, 0, none⟩ 1 1 [.int .i64 z] rfl rfl (news1 _ _ _) (one_cell _) (by omega) (by unfold maxLen; omega) (by omega) (by simp; omega) _ rfl ?_)
            intro t5 c5 w5 hown hgrow hat _
            have HE : Hid (DropJ d B ls (dropTo (d.ns.map absN) ls ks S (j + 1)) w3 w5 (.slice (some ⟨t5, 0, none⟩) (j + 1) c5) (Q.take (j + 1)) M4) := Lib.hid (by
              obtain ⟨g1, g2, g3, g4, g5⟩ := HJ.out
              obtain ⟨g6, g7⟩ := g1.on (alloc_below W4 (.cells #[.int .i64 z] 3))
              obtain ⟨g8, g9⟩ := g6.moved hgrow (fun k hk => (g3.lt k (by rw [← hk])).1)
              refine ⟨g8, (g2.trans g7).trans g9, ?_, g4, g5⟩
              rw [HQS.out.1, ← HZ.out, List.length_append, List.length_singleton, HQS.out.2, ← map_snocI, List.map_take]
              exact hown)
            clear hown hgrow hat c3 y1 hbz
            go_wp2_with fail
            go_roundw
            case rel => exact ⟨j + 1, M4, _, by omega, rfl, by go_num, HE⟩
            case measure => simp [intOf]; omega
        · have t1 : decide (nk ≤ j) = true := by simp; omega
          have HKB : Hid (keepB ks j = false) := Lib.hid (by unfold keepB; rw [getD_none (by rw [← HNK.out]; omega)])
          clear hjk
          have HO : Hid (outN (d.ns.map absN) ls (dropTo (d.ns.map absN) ls ks S j) j = dropTo (d.ns.map absN) ls ks S (j + 1)) := Lib.hid (by
            show _ = dropStep (d.ns.map absN) ls ks (dropTo (d.ns.map absN) ls ks S j) j
            rw [dropStep_outN, HKB.out]; rfl)
          go_wp2_with fail
          go_at_call 31; refine HDR.out.mono ?_; rintro e W4 hdt
          obtain ⟨rfl, M4, hj4⟩ := HW.out.drop hdt HO.out
          have HJ := Lib.hid hj4
          clear hdt hj4
          obtain ⟨-, -, -, c3, -⟩ := HJ.out.1.toDp.cG
          obtain ⟨y1, -⟩ := HJ.out.1.toDp.cV HVQ.out
          rw [HVA.out] at y1
          obtain ⟨z, hz⟩ : ∃ z, z = Q.getD j 0 := ⟨_, rfl⟩
          rw [← hz] at y1
          have HZ := Lib.hid hz
          have hbz : B ≤ W4.heap.size := HJ.out.1.low.2.2.2
          have hrow := HJ.out.2.2.1
          rw [HQS.out.2] at hrow
          have HROW := Lib.hid (own_on hrow (alloc_below W4 (.cells #[.int .i64 z] 3)))
          obtain ⟨xa, xc, hlv4⟩ := own_sliceI HJ.out.2.2.1
          rw [HQS.out.2] at hlv4
          subst hlv4
          clear hz hrow
          go_wp2_with (at_builtin; refine wpList_append_lies _ rfl (.tmp 47) (.tmp 55) 23 rfl B 3 i0 (.int .i64 0) 1 8 Try.underlying23 hi hz0 hz1 hz2 rfl (by decide) (.slice xa j xc) j ((Q.take j).map (Value.int .i64)) rfl HROW.out ⟨W4.heap.size, 0, none⟩ 1 1 [.int .i64 z] rfl rfl (news1 _ _ _) (one_cell _) (by omega) (by unfold maxLen; omega) (by omega) (by simp; omega) _ rfl ?_)
          intro t5 c5 w5 hown hgrow hat _
          have HE : Hid (DropJ d B ls (dropTo (d.ns.map absN) ls ks S (j + 1)) w3 w5 (.slice (some ⟨t5, 0, none⟩) (j + 1) c5) (Q.take (j + 1)) M4) := Lib.hid (by
            obtain ⟨g1, g2, g3, g4, g5⟩ := HJ.out
            obtain ⟨g6, g7⟩ := g1.on (alloc_below W4 (.cells #[.int .i64 z] 3))
            obtain ⟨g8, g9⟩ := g6.moved hgrow (fun k hk => (g3.lt k (by rw [← hk])).1)
            refine ⟨g8, (g2.trans g7).trans g9, ?_, g4, g5⟩
            rw [HQS.out.1, ← HZ.out, List.length_append, List.length_singleton, HQS.out.2, ← map_snocI, List.map_take]
            exact hown)
          clear hown hgrow hat c3 y1 hbz
          go_wp2_with fail
          go_roundw
          case rel => exact ⟨j + 1, M4, _, by omega, rfl, by go_num, HE⟩
          case measure => simp [intOf]; omega
      · obtain rfl : n = j := by omega
        obtain ⟨xa, xc, rfl⟩ := own_sliceI HW.out.2.2.1
        have HE : Hid (TellsI Q w (.returned (.slice xa (Q.take n).length xc)) wo) := Lib.hid (by
          have h := HW.out.2.2.1
          have e : Q.take n = Q := by rw [← HQL.out, List.take_length]
          rw [e] at h ⊢
          exact ⟨_, rfl, ints_of_owned h, HB3.out.trans (HW.out.2.1.below (fun k hk => by have := HA3.out; rcases hk with e | e | e <;> omega) HB3.out.size)⟩)
        clear hlt hj
        go_wp2_with fail
        go_ret
        exact HE.out
theorem tern_ok : TernOk where
  eval := tEval_any
  words := fun v u ns ws w hv hg hn hu hf hl => (tWords_any v u ns ws w hv hg hn hu hl).mono fun e w' h => by
    obtain ⟨x, rfl, h1, h2⟩ := h
    exact ⟨x, _, rfl, h1, words_all (good_abs hg) (by rw [List.length_map]; exact hn) hf, h2⟩
  sure := fun v u l ns zs ls w hv hg hn hu hz hl _ => tSure_any v u l ns zs ls w hv hg hn hu hz hl
  drop := fun v u l k ns zs ls ks w hv hg hn hu hz hl _ hk => tDrop_any v u l k ns zs ls ks w hv hg hn hu hz hl hk
end Go.Proofs.Ytoacedadfjoneaa.aig
