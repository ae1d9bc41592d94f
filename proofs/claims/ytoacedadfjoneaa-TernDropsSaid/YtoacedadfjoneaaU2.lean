/- The walk of the document's Drop. (Printed by mkU2.py.) -/
import Derived.Test.YtoacedadfjoneaaU1
namespace Go.Proofs.Ytoacedadfjoneaa.aig
open Go.RowKit
open Go.Proofs.Ytoacedadfjoneaa.mem Go.Proofs.Ytoacedadfjoneaa.agf Go.Proofs.Ytoacedadfjoneaa.fns
open Go.Proofs.Ytoacedadfjoneaa.ints (Ints ints_of_owned)
open Go.Proofs.Ytoacedadfjoneaa.tri (tLit)

theorem set_back {L : List Int} {k : Nat} {x : Int} (h : k < L.length) : (L.set k x).set k (L.getD k 0) = L := by
  rw [List.set_set]
  have : L.getD k 0 = L[k] := by simp [List.getD, h]
  rw [this, List.set_getElem_self]
theorem KB.form {w : World} {v : Value} {bs : List Bool} (h : KB w v bs) : ∃ a cap, v = .slice a bs.length cap ∧ bs.length ≤ cap ∧ cap ≤ maxLen := by
  obtain ⟨a, cap, hv, h1, h2, -⟩ := h; exact ⟨a, cap, hv, h1, h2⟩
theorem KNds.old {P : Nat → Prop} {w : World} {v : Value} {ns : List (Int × Int)} (h : KNds P w v ns) : KNds (fun _ => False) w v ns := by
  obtain ⟨a, cap, hv, h1, h2, h3⟩ := h
  exact ⟨a, cap, hv, h1, h2, fun hp => by obtain ⟨b, off, ha, hlt, -, hc⟩ := h3 hp; exact ⟨b, off, ha, hlt, fun e => e, hc⟩⟩
theorem dropTo_len (N : Net) (ls : List Int) (ks : List Bool) (out : List Int) (k : Nat) : (dropTo N ls ks out k).length = out.length := drop_len N ls ks out k
set_option maxRecDepth 100000 in
set_option maxHeartbeats 3200000 in
theorem refDrop_any (v u lsv kv : Value) (ns : List (Int × Int)) (zs ls : List Int) (ks : List Bool) (w : World) (hv : KNds (fun _ => False) w v ns) (hn : ns.length ≤ 1000) (hg : GoodN ns) (hu : Ints w u zs) (hl : Ints w lsv ls) (hkb : KB w kv ks) :
    Calls Try.prog 16 #[v, u, lsv, kv] w (Told (tDrop (ns.map absN) zs ls ks) w) := by
  obtain ⟨i0, hi, hz0, hz1, hz2⟩ := info_parts infoI
  obtain ⟨a, cap, rfl, l1, l2⟩ := hv.form
  unfold maxLen at l2
  have HI := Lib.hid hu
  obtain ⟨ai, capi, rfl, l3, l4⟩ := Ints.form hu
  unfold maxLen at l4
  have HK := Lib.hid hkb
  obtain ⟨ak, capk, rfl, l5, l6⟩ := hkb.form
  unfold maxLen at l6
  have HLS := Lib.hid hl
  obtain ⟨N, hN⟩ : ∃ N, N = ns.map absN := ⟨_, rfl⟩
  have hNl : N.length = ns.length := by rw [hN, List.length_map]
  have HSU : Hid (∀ (a : Option Addr) (m cap : Nat) (u' : Value) (xs : List Int) (w' : World), .slice a ns.length cap = Value.slice a m cap → KNds (fun _ => False) w' (.slice a ns.length cap) ns → Ints w' u' xs → Ints w' lsv ls → Calls Try.prog 14 #[.slice a ns.length cap, u', lsv] w' fun e w'' => e = .returned (.bool (tSure N xs ls)) ∧ Below w'.heap.size w' w'') := Lib.hid (fun a m cap u' xs w' _ h1 h2 h3 => by
    rw [hN]; exact refSure_any _ _ u' lsv ns xs ls w' h1 hn hg h2 h3)
  obtain ⟨m, hm⟩ : ∃ m, m = ns.length := ⟨_, rfl⟩
  rw [← hm] at l1 hn hv hNl HSU
  obtain ⟨n, hnn⟩ : ∃ n, n = zs.length := ⟨_, rfl⟩
  rw [← hnn] at l3 HI
  obtain ⟨nk, hnk⟩ : ∃ nk, nk = ks.length := ⟨_, rfl⟩
  rw [← hnk] at l5 HK
  have HV := Lib.hid hv
  have HM := Lib.hid hm
  have HNN := Lib.hid hnn
  have HNK := Lib.hid hnk
  have HNE := Lib.hid hN
  have HNL := Lib.hid hNl
  have HCL := Lib.hid (fun k => startL_len N zs k)
  have HCI : Hid (∀ k, cntI N k ≤ k) := Lib.hid (fun k => by unfold cntI; exact Nat.le_trans (List.length_filter_le _ _) (by simp))
  have HB0 : Hid (Below w.heap.size w (w.alloc (.cells #[] 3))) := Lib.hid ((Below.refl _ _).alloc (Nat.le_refl _) _)
  have HR0 : Hid ((w.alloc (.cells #[] 3)).ownsRow w.heap.size 3 1 (.slice (some ⟨w.heap.size, 0, none⟩) 0 0) 0 []) := Lib.hid (World.ownsRow_made _ #[] 0 (Nat.le_refl _) (by unfold maxLen; omega) rfl)
  have HL0 : Hid ([] = startL N zs 0) := Lib.hid rfl
  rw [← hm, ← hnn, ← hnk, ← hN]
  clear hv hm hg hnn hu hl hkb hnk hN hNl
  go_enter Try.func16, Try.ntmps16
  go_wp2_with fail
  go_loopw [9, 10] (fun l i wr => ∃ (k : Nat) (L : List Int) (lv : Value), k ≤ m ∧ i = .int .i64 k ∧ l = lv ∧ L.length ≤ k ∧ Hid (L = startL N zs k) ∧ Hid (wr.ownsRow w.heap.size 3 1 lv L.length (L.map (Value.int .i64)) ∧ Below w.heap.size w wr)) (fun _ i _ => m - (intOf i).toNat)
  case atStart => exact ⟨0, [], _, Nat.zero_le _, rfl, rfl, Nat.le_refl _, HL0, Lib.hid ⟨HR0.out, HB0.out⟩⟩
  case round =>
    clear HB0 HR0 HL0
    obtain ⟨k, L, lv, hk, rfl, hlv, hL, HLI, HW⟩ := hrel
    obtain rfl : lv = _ := hlv.symm
    obtain ⟨wo, rfl⟩ : ∃ wo : World, wo = wr := ⟨_, rfl⟩
    have hsz := HW.out.2.size
    obtain ⟨va, vcap, hva⟩ : ∃ a c, lv = .slice a L.length c := by
      rcases Joins.ownsRow_forms HW.out.1 with ⟨h, h0⟩ | ⟨g, c, h⟩
      · exact ⟨none, 0, by rw [h, h0]⟩
      · exact ⟨_, _, h⟩
    subst hva
    by_cases hlt : k < m
    · obtain ⟨b, off, rfl, -, e1, -⟩ := (HV.out.on HW.out.2).at_ hlt
      have HAT : Hid (N[k]? = some (absN (ns.getD k (0, 0)))) := Lib.hid (by rw [HNE.out]; exact absN_at (by rw [← HM.out]; exact hlt))
      have HST := Lib.hid (startL_step N zs k)
      obtain ⟨pq, hpq⟩ : ∃ pq, pq = ns.getD k (0, 0) := ⟨_, rfl⟩
      rw [← hpq] at e1 HAT
      obtain ⟨p, q⟩ := pq
      simp only at e1
      have d1 : (k : Int) < (m : Int) := by omega
      have d2 : 0 ≤ (k : Int) := by omega
      clear hpq
      by_cases g0 : p < 0
      · have c1 : decide (0 ≤ p) = false := by simp; omega
        have HABS : Hid (N[k]? = some none) := Lib.hid (by rw [HAT.out]; unfold absN; rw [if_pos g0])
        have hLb : L.length ≤ 1001 := by omega
        have HSL : Hid ((startL N zs k).length = L.length) := Lib.hid (by rw [HLI.out])
        clear g0
        by_cases hkn : L.length < n
        · obtain ⟨b', off', rfl, -, e3⟩ := Ints.at_ (Ints.on HI.out HW.out.2) hkn
          obtain ⟨z, hz⟩ : ∃ z, z = zs.getD L.length 0 := ⟨_, rfl⟩
          rw [← hz] at e3
          have HZ := Lib.hid hz
          have HKN := Lib.hid hkn
          have d3 : (L.length : Int) < (n : Int) := by omega
          have d4 : 0 ≤ (L.length : Int) := by omega
          clear hz
          rcases tv3 z with rfl | rfl | h2
          · have HR : Hid (tIn zs L.length = 0) := Lib.hid (tIn_of HNN.out HKN.out HZ.out (show tv 0 = 0 from rfl))
            have HN : Hid (L ++ [0] = startL N zs (k + 1)) := Lib.hid (by rw [HST.out, HABS.out, if_pos rfl, ← HLI.out, HR.out])
            have HROW := Lib.hid (own_on HW.out.1 ((Below.refl _ wo).alloc (Nat.le_refl _) (.cells #[.int .i64 0] 3)))
            go_wp2_with (at_builtin; refine wpList_append_lies _ rfl (.tmp 47) (.tmp 52) 23 rfl w.heap.size 3 i0 (.int .i64 0) 1 8 Try.underlying23 hi hz0 hz1 hz2 rfl (by decide) (.slice va L.length vcap) L.length (L.map (Value.int .i64)) rfl HROW.out ⟨wo.heap.size, 0, none⟩ 1 1 [.int .i64 0] rfl rfl (news1 _ _ _) (one_cell _) (by omega) (by unfold maxLen; omega) (by omega) (by simp; omega) _ rfl ?_)
            intro t2 c2 w3 hown hgrow hat _
            have HE := Lib.hid (row_end HW.out.2 hsz HW.out.1 hown hgrow)
            clear hown hgrow hat
            go_wp2_with fail
            go_roundw
            case rel => exact ⟨k + 1, L ++ [0], .slice (some ⟨t2, 0, none⟩) (L.length + 1) c2, by omega, by go_num, rfl, by simp; omega, HN, HE⟩
            case measure => simp [intOf]; omega
          · have HR : Hid (tIn zs L.length = 1) := Lib.hid (tIn_of HNN.out HKN.out HZ.out (show tv 1 = 1 from rfl))
            have HN : Hid (L ++ [1] = startL N zs (k + 1)) := Lib.hid (by rw [HST.out, HABS.out, if_pos rfl, ← HLI.out, HR.out])
            have HROW := Lib.hid (own_on HW.out.1 ((Below.refl _ wo).alloc (Nat.le_refl _) (.cells #[.int .i64 1] 3)))
            go_wp2_with (at_builtin; refine wpList_append_lies _ rfl (.tmp 47) (.tmp 52) 23 rfl w.heap.size 3 i0 (.int .i64 0) 1 8 Try.underlying23 hi hz0 hz1 hz2 rfl (by decide) (.slice va L.length vcap) L.length (L.map (Value.int .i64)) rfl HROW.out ⟨wo.heap.size, 0, none⟩ 1 1 [.int .i64 1] rfl rfl (news1 _ _ _) (one_cell _) (by omega) (by unfold maxLen; omega) (by omega) (by simp; omega) _ rfl ?_)
            intro t2 c2 w3 hown hgrow hat _
            have HE := Lib.hid (row_end HW.out.2 hsz HW.out.1 hown hgrow)
            clear hown hgrow hat
            go_wp2_with fail
            go_roundw
            case rel => exact ⟨k + 1, L ++ [1], .slice (some ⟨t2, 0, none⟩) (L.length + 1) c2, by omega, by go_num, rfl, by simp; omega, HN, HE⟩
            case measure => simp [intOf]; omega
          · have HR : Hid (tIn zs L.length = 2) := Lib.hid (tIn_of HNN.out HKN.out HZ.out (tv_other h2))
            obtain ⟨c2, c3⟩ := tri.ne0 h2
            clear h2
            have HN : Hid (L ++ [2] = startL N zs (k + 1)) := Lib.hid (by rw [HST.out, HABS.out, if_pos rfl, ← HLI.out, HR.out])
            have HROW := Lib.hid (own_on HW.out.1 ((Below.refl _ wo).alloc (Nat.le_refl _) (.cells #[.int .i64 2] 3)))
            go_wp2_with (at_builtin; refine wpList_append_lies _ rfl (.tmp 54) (.tmp 55) 23 rfl w.heap.size 3 i0 (.int .i64 0) 1 8 Try.underlying23 hi hz0 hz1 hz2 rfl (by decide) (.slice va L.length vcap) L.length (L.map (Value.int .i64)) rfl HROW.out ⟨wo.heap.size, 0, none⟩ 1 1 [.int .i64 2] rfl rfl (news1 _ _ _) (one_cell _) (by omega) (by unfold maxLen; omega) (by omega) (by simp; omega) _ rfl ?_)
            intro t2 c2 w3 hown hgrow hat _
            have HE := Lib.hid (row_end HW.out.2 hsz HW.out.1 hown hgrow)
            clear hown hgrow hat
            go_wp2_with fail
            go_roundw
            case rel => exact ⟨k + 1, L ++ [2], .slice (some ⟨t2, 0, none⟩) (L.length + 1) c2, by omega, by go_num, rfl, by simp; omega, HN, HE⟩
            case measure => simp [intOf]; omega
        · have c2 : decide (L.length < n) = false := by simp; omega
          have HR : Hid (tIn zs L.length = 2) := Lib.hid (tIn_no HNN.out hkn)
          clear hkn
          have HN : Hid (L ++ [2] = startL N zs (k + 1)) := Lib.hid (by rw [HST.out, HABS.out, if_pos rfl, ← HLI.out, HR.out])
          have HROW := Lib.hid (own_on HW.out.1 ((Below.refl _ wo).alloc (Nat.le_refl _) (.cells #[.int .i64 2] 3)))
          go_wp2_with (at_builtin; refine wpList_append_lies _ rfl (.tmp 54) (.tmp 55) 23 rfl w.heap.size 3 i0 (.int .i64 0) 1 8 Try.underlying23 hi hz0 hz1 hz2 rfl (by decide) (.slice va L.length vcap) L.length (L.map (Value.int .i64)) rfl HROW.out ⟨wo.heap.size, 0, none⟩ 1 1 [.int .i64 2] rfl rfl (news1 _ _ _) (one_cell _) (by omega) (by unfold maxLen; omega) (by omega) (by simp; omega) _ rfl ?_)
          intro t2 c2 w3 hown hgrow hat _
          have HE := Lib.hid (row_end HW.out.2 hsz HW.out.1 hown hgrow)
          clear hown hgrow hat
          go_wp2_with fail
          go_roundw
          case rel => exact ⟨k + 1, L ++ [2], .slice (some ⟨t2, 0, none⟩) (L.length + 1) c2, by omega, by go_num, rfl, by simp; omega, HN, HE⟩
          case measure => simp [intOf]; omega
      · have c1 : decide (0 ≤ p) = true := by simp; omega
        have HN : Hid (L = startL N zs (k + 1)) := Lib.hid (by
          rw [HST.out, HAT.out, if_neg (by unfold absN; rw [if_neg g0]; simp), List.append_nil]; exact HLI.out)
        clear g0
        go_wp2_with fail
        go_roundw
        case rel => exact ⟨k + 1, L, _, by omega, by go_num, rfl, by omega, HN, HW⟩
        case measure => simp [intOf]; omega
    · obtain rfl : m = k := by omega
      obtain ⟨S, hS⟩ : ∃ S, S = startL N zs N.length := ⟨_, rfl⟩
      have HSL : Hid (L = S) := Lib.hid (by rw [HLI.out, hS, HNL.out])
      have HTD : Hid (tDrop N zs ls ks = if tSure N S ls then dropTo N ls ks S S.length else []) := Lib.hid (by rw [hS]; rfl)
      obtain rfl : L = S := HSL.out
      have HRO := Lib.hid HW.out.1
      have HBW := Lib.hid HW.out.2
      have hLb : L.length ≤ 1001 := by omega
      have HOI := Lib.hid (ints_of_owned HRO.out)
      have HC := Lib.hid (HSU.out a m cap _ L wo rfl (HV.out.on HBW.out) HOI.out (Ints.on HLS.out HBW.out))
      cases hs : tSure N L ls with
      | false =>
        have HCN := Lib.hid HC.out
        rw [hs] at HC HTD
        have HT0 : Hid (tDrop N zs ls ks = []) := Lib.hid (by rw [HTD.out]; rfl)
        clear hlt hk hs hS HCN
        go_wp2_with fail
        go_at_call 14; refine HC.out.mono ?_; rintro e w2 ⟨rfl, b2⟩
        have HE : Hid (Told (tDrop N zs ls ks) w (.returned (.slice none 0 0)) w2) := Lib.hid (by
          rw [HT0.out]; exact ⟨_, rfl, World.ownsRow_nil _ _ _ _, HBW.out.trans (b2.mono HBW.out.size)⟩)
        clear b2
        go_wp2_with fail
        go_ret
        exact HE.out
      | true =>
        rw [hs] at HC HTD
        have HT0 : Hid (tDrop N zs ls ks = dropTo N ls ks L L.length) := Lib.hid (by rw [HTD.out]; rfl)
        clear hlt hk hs hS hL
        go_wp2_with fail
        go_at_call 14; refine HC.out.mono ?_; rintro e w2 ⟨rfl, b2⟩
        have HW2 := Lib.hid (And.intro (own_on HRO.out b2) (HBW.out.trans (b2.mono HBW.out.size)))
        have HDL := Lib.hid (fun k => dropTo_len N ls ks L k)
        have HD0 : Hid (L = dropTo N ls ks L 0) := Lib.hid rfl
        have HDS : Hid (∀ k, dropTo N ls ks L (k + 1) = dropStep N ls ks (dropTo N ls ks L k) k) := Lib.hid (fun k => rfl)
        obtain ⟨D, hD⟩ : ∃ D : Nat → List Int, D = dropTo N ls ks L := ⟨_, rfl⟩
        have HTD2 : Hid (tDrop N zs ls ks = D L.length) := Lib.hid (by rw [HT0.out, hD])
        rw [← hD] at HDL HD0 HDS
        obtain ⟨n9, hn9⟩ : ∃ n9, n9 = L.length := ⟨_, rfl⟩
        have HROW2 : Hid (w2.ownsRow w.heap.size 3 1 (.slice va n9 vcap) n9 ((D 0).map (Value.int .i64)) ∧ Below w.heap.size w w2) := Lib.hid (by
          rw [← HD0.out, hn9]; exact HW2.out)
        rw [← hn9] at HTD2 hLb HDL
        rw [← hn9]
        clear b2 HW2 HD0 hD hn9 HTD HT0 HC HOI HLI HSL HRO HW
        go_wp2_with fail
        go_loopw [12] (fun i wr => ∃ (k : Nat) (X : List Int), k ≤ n9 ∧ i = .int .i64 k ∧ Hid (X = D k) ∧ Hid (wr.ownsRow w.heap.size 3 1 (.slice va n9 vcap) n9 (X.map (Value.int .i64)) ∧ Below w.heap.size w wr)) (fun i _ => n9 - (intOf i).toNat)
        case atStart => exact ⟨0, _, Nat.zero_le _, rfl, Lib.hid rfl, HROW2⟩
        case round =>
          clear HROW2
          obtain ⟨k, X, hk, rfl, HXD, HW⟩ := hrel
          obtain ⟨wi, rfl⟩ : ∃ wi : World, wi = wr := ⟨_, rfl⟩
          have hXl : X.length = n9 := by rw [HXD.out]; exact HDL.out k
          have HXL := Lib.hid hXl
          have HSTP := Lib.hid (HDS.out k)
          rw [← HXD.out] at HSTP
          clear hXl
          by_cases hlt : k < n9
          · obtain ⟨g, cap', hg⟩ := Joins.ownsRow_form HW.out.1 (by omega)
            obtain ⟨rfl, -, rfl⟩ := Value.slice.inj hg
            have e1 := HW.out.1.cellAt k (by omega)
            have f1 := HW.out.1.frozenAt k
            have hkX : k < X.length := by rw [HXL.out]; exact hlt
            rw [List.getElem?_map, List.getElem?_eq_getElem hkX, Option.map_some] at e1
            obtain ⟨x, hx⟩ : ∃ x, x = X[k] := ⟨_, rfl⟩
            have HXB : Hid ((X.set k 2).set k x = X) := Lib.hid (by
              have := set_back (x := 2) hkX
              rw [show X.getD k 0 = X[k] by simp [List.getD, hkX], ← hx] at this; exact this)
            rw [← hx] at e1
            have hglt := (HW.out.1.lt g rfl).1
            have HGL := Lib.hid hglt
            have d1 : (k : Int) < (n9 : Int) := by omega
            have d2 : 0 ≤ (k : Int) := by omega
            clear hg hx hkX
            have HROW1 : Hid ((wi.setCell ⟨g, k, none⟩ (.int .i64 2)).ownsRow w.heap.size 3 1 (.slice (some ⟨g, 0, none⟩) n9 vcap) n9 ((X.set k 2).map (Value.int .i64)) ∧ Below w.heap.size w (wi.setCell ⟨g, k, none⟩ (.int .i64 2))) := Lib.hid ⟨by
              have h := (HW.out.1.stored k (.int .i64 2)).1
              rw [← List.map_set] at h; exact h, HW.out.2.setCell (p := ⟨g, k, none⟩) hglt _⟩
            cases hkp : keepB ks k with
            | true =>
              have hkn : k < nk := by
                by_cases h : k < nk
                · exact h
                · unfold keepB at hkp; rw [getD_none (by rw [← HNK.out]; omega)] at hkp; cases hkp
              obtain ⟨b', off', rfl, -, e3⟩ := (HK.out.on HW.out.2).at_ hkn
              rw [show ks.getD k false = true from hkp] at e3
              have HX2 : Hid (X = D (k + 1)) := Lib.hid (by rw [HSTP.out]; unfold dropStep; rw [hkp]; rfl)
              have d3 : (k : Int) < (nk : Int) := by omega
              clear hkp HROW1
              go_wp2_with fail
              go_roundw
              case rel => exact ⟨k + 1, X, by omega, by go_num, HX2, HW⟩
              case measure => simp [intOf]; omega
            | false =>
              have HSTP2 : Hid (D (k + 1) = if tSure N (X.set k 2) ls then X.set k 2 else X) := Lib.hid (by rw [HSTP.out]; unfold dropStep; rw [hkp]; rfl)
              have HIX : Hid (Ints (wi.setCell ⟨g, k, none⟩ (.int .i64 2)) (.slice (some ⟨g, 0, none⟩) n9 vcap) (X.set k 2)) := Lib.hid (by
                have h := HROW1.out.1
                have e : n9 = (X.set k 2).length := by rw [List.length_set]; exact HXL.out.symm
                rw [e] at h ⊢; exact ints_of_owned h)
              have HC := Lib.hid (HSU.out a m cap (.slice (some ⟨g, 0, none⟩) n9 vcap) (X.set k 2) (wi.setCell ⟨g, k, none⟩ (.int .i64 2)) rfl (HV.out.on HROW1.out.2) HIX.out (Ints.on HLS.out HROW1.out.2))
              by_cases hkn : k < nk
              · obtain ⟨b', off', rfl, -, e3⟩ := (HK.out.on HW.out.2).at_ hkn
                rw [show ks.getD k false = false from hkp] at e3
                have d3 : (k : Int) < (nk : Int) := by omega
                clear hkp
                go_upto_region 18 with fail
                obtain ⟨W5, hW5⟩ : ∃ W5, W5 = wi.setCell ⟨g, k, none⟩ (.int .i64 2) := ⟨_, rfl⟩
                rw [← hW5] at HROW1 HC ⊢
                clear hW5 e1 f1
                cases hs : tSure N (X.set k 2) ls with
                | true =>
                  rw [hs] at HC HSTP2
                  have HX2 : Hid (X.set k 2 = D (k + 1)) := Lib.hid HSTP2.out.symm
                  clear hs
                  go_wp2_with fail
                  go_at_call 14; refine HC.out.mono ?_; rintro e w6 ⟨rfl, b6⟩
                  have HE := Lib.hid (And.intro (own_on HROW1.out.1 b6) (HROW1.out.2.trans (b6.mono HROW1.out.2.size)))
                  clear b6
                  go_wp2_with fail
                  go_roundw
                  case rel => exact ⟨k + 1, X.set k 2, by omega, by go_num, HX2, HE⟩
                  case measure => simp [intOf]; omega
                | false =>
                  rw [hs] at HC HSTP2
                  have HX2 : Hid (X = D (k + 1)) := Lib.hid HSTP2.out.symm
                  clear hs
                  go_wp2_with fail
                  go_at_call 14; refine HC.out.mono ?_; rintro e w6 ⟨rfl, b6⟩
                  have HW6 := Lib.hid (And.intro (own_on HROW1.out.1 b6) (HROW1.out.2.trans (b6.mono HROW1.out.2.size)))
                  have HE : Hid ((w6.setCell ⟨g, k, none⟩ (.int .i64 x)).ownsRow w.heap.size 3 1 (.slice (some ⟨g, 0, none⟩) n9 vcap) n9 (X.map (Value.int .i64)) ∧ Below w.heap.size w (w6.setCell ⟨g, k, none⟩ (.int .i64 x))) := Lib.hid ⟨by
                    have h := (HW6.out.1.stored k (.int .i64 x)).1
                    rw [← List.map_set, HXB.out] at h; exact h, HW6.out.2.setCell (p := ⟨g, k, none⟩) HGL.out _⟩
                  have f6 := HW6.out.1.frozenAt k
                  have z6 := HW6.out.1.cellAt k (by omega)
                  obtain ⟨u6, hu6⟩ : ∃ u, ((X.set k 2).map (Value.int .i64))[k]? = some u := ⟨_, List.getElem?_eq_getElem (by rw [List.length_map, List.length_set, HXL.out]; exact hlt)⟩
                  rw [hu6] at z6
                  clear b6 hu6
                  go_wp2_with fail
                  go_roundw
                  case rel => exact ⟨k + 1, X, by omega, by go_num, HX2, HE⟩
                  case measure => simp [intOf]; omega
              · have d3 : decide (k < nk) = false := by simp; omega
                clear hkp
                go_upto_region 18 with fail
                obtain ⟨W5, hW5⟩ : ∃ W5, W5 = wi.setCell ⟨g, k, none⟩ (.int .i64 2) := ⟨_, rfl⟩
                rw [← hW5] at HROW1 HC ⊢
                clear hW5 e1 f1
                cases hs : tSure N (X.set k 2) ls with
                | true =>
                  rw [hs] at HC HSTP2
                  have HX2 : Hid (X.set k 2 = D (k + 1)) := Lib.hid HSTP2.out.symm
                  clear hs
                  go_wp2_with fail
                  go_at_call 14; refine HC.out.mono ?_; rintro e w6 ⟨rfl, b6⟩
                  have HE := Lib.hid (And.intro (own_on HROW1.out.1 b6) (HROW1.out.2.trans (b6.mono HROW1.out.2.size)))
                  clear b6
                  go_wp2_with fail
                  go_roundw
                  case rel => exact ⟨k + 1, X.set k 2, by omega, by go_num, HX2, HE⟩
                  case measure => simp [intOf]; omega
                | false =>
                  rw [hs] at HC HSTP2
                  have HX2 : Hid (X = D (k + 1)) := Lib.hid HSTP2.out.symm
                  clear hs
                  go_wp2_with fail
                  go_at_call 14; refine HC.out.mono ?_; rintro e w6 ⟨rfl, b6⟩
                  have HW6 := Lib.hid (And.intro (own_on HROW1.out.1 b6) (HROW1.out.2.trans (b6.mono HROW1.out.2.size)))
                  have HE : Hid ((w6.setCell ⟨g, k, none⟩ (.int .i64 x)).ownsRow w.heap.size 3 1 (.slice (some ⟨g, 0, none⟩) n9 vcap) n9 (X.map (Value.int .i64)) ∧ Below w.heap.size w (w6.setCell ⟨g, k, none⟩ (.int .i64 x))) := Lib.hid ⟨by
                    have h := (HW6.out.1.stored k (.int .i64 x)).1
                    rw [← List.map_set, HXB.out] at h; exact h, HW6.out.2.setCell (p := ⟨g, k, none⟩) HGL.out _⟩
                  have f6 := HW6.out.1.frozenAt k
                  have z6 := HW6.out.1.cellAt k (by omega)
                  obtain ⟨u6, hu6⟩ : ∃ u, ((X.set k 2).map (Value.int .i64))[k]? = some u := ⟨_, List.getElem?_eq_getElem (by rw [List.length_map, List.length_set, HXL.out]; exact hlt)⟩
                  rw [hu6] at z6
                  clear b6 hu6
                  go_wp2_with fail
                  go_roundw
                  case rel => exact ⟨k + 1, X, by omega, by go_num, HX2, HE⟩
                  case measure => simp [intOf]; omega
          · obtain rfl : n9 = k := by omega
            have HE : Hid (Told (tDrop N zs ls ks) w (.returned (.slice va n9 vcap)) wi) := Lib.hid (by
              rw [HTD2.out, ← HXD.out]
              exact ⟨_, rfl, by rw [HXL.out]; exact HW.out.1, HW.out.2⟩)
            clear hlt hk
            go_wp2_with fail
            go_ret
            exact HE.out
end Go.Proofs.Ytoacedadfjoneaa.aig
