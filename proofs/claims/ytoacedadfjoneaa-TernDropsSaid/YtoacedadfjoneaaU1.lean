/- The walks of the document's Eval and Sure, of values that may be open. (Printed by mkU1.py.) -/
import Derived.Test.YtoacedadfjoneaaFt
import Derived.Test.YtoacedadfjoneaaTll
import Derived.Deep.RegionHeld3
namespace Go.Proofs.Ytoacedadfjoneaa.aig
open Go.RowKit
open Go.Proofs.Ytoacedadfjoneaa.mem Go.Proofs.Ytoacedadfjoneaa.agf Go.Proofs.Ytoacedadfjoneaa.fns
open Go.Proofs.Ytoacedadfjoneaa.ints (Ints ints_of_owned)
open Go.Proofs.Ytoacedadfjoneaa.tri (tLit)

theorem Ints.at_ {w : World} {a : Option Addr} {m cap : Nat} {zs : List Int} (h : Ints w (.slice a m cap) zs) {i : Nat} (hi : i < m) : ∃ b off, a = some ⟨b, off, none⟩ ∧ b < w.heap.size ∧ w.cell? ⟨b, off + i, none⟩ = some (.int .i64 (zs.getD i 0)) := by
  obtain ⟨a', cap', hv, h1, h2, h3⟩ := h
  obtain ⟨rfl, rfl, rfl⟩ := Value.slice.inj hv
  obtain ⟨b, off, ha, hlt, hc⟩ := h3 (by omega)
  exact ⟨b, off, ha, hlt, hc i hi⟩
theorem Ints.form {w : World} {v : Value} {zs : List Int} (h : Ints w v zs) : ∃ a cap, v = .slice a zs.length cap ∧ zs.length ≤ cap ∧ cap ≤ maxLen := by
  obtain ⟨a, cap, hv, h1, h2, -⟩ := h; exact ⟨a, cap, hv, h1, h2⟩
theorem Ints.on {w w' : World} {v : Value} {zs : List Int} (h : Ints w v zs) (hb : Below w.heap.size w w') : Ints w' v zs := Go.Proofs.Ytoacedadfjoneaa.ints.Ints.on h hb
theorem tIn_of {ins : List Int} {k n : Nat} {z r : Int} (hn : n = ins.length) (hk : k < n) (hz : z = ins.getD k 0) (hr : tv z = r) : tIn ins k = r := by
  unfold tIn; rw [if_pos (by omega), ← hz, hr]
theorem tIn_no {ins : List Int} {k n : Nat} (hn : n = ins.length) (hk : ¬ k < n) : tIn ins k = 2 := by
  unfold tIn; rw [if_neg (by omega)]
theorem rLit_q (a : Option Addr) (n cap : Nat) (ls : List Int) (x : Int) (w : World) (hv : Ints w (.slice a n cap) ls) :
    Calls Try.prog 22 #[.slice a n cap, .int .i64 x] w fun e w' => e = .returned (.int .i64 (tLit ls x)) ∧ w' = w := (tri.refLit_any a n cap ls x w hv).mono fun _ _ ⟨h1, h2⟩ => ⟨h1, h2.symm⟩
theorem rAnd_q (a b : Int) (w : World) : Calls Try.prog 21 #[.int .i64 a, .int .i64 b] w fun e w' => e = .returned (.int .i64 (tAnd a b)) ∧ w' = w := (tri.refAnd_any a b w).mono fun _ _ ⟨h1, h2⟩ => ⟨h1, h2.symm⟩
set_option maxRecDepth 100000 in
set_option maxHeartbeats 3200000 in
theorem refEval_any (P : Nat → Prop) (v u : Value) (ns : List (Int × Int)) (zs : List Int) (w : World) (hv : KNds P w v ns) (hn : ns.length ≤ 1000) (hg : GoodN ns) (hu : Ints w u zs) :
    Calls Try.prog 10 #[v, u] w (Told (tSt zs (ns.map absN)).1 w) := by
  obtain ⟨i0, hi, hz0, hz1, hz2⟩ := info_parts infoI
  obtain ⟨a, cap, rfl, l1, l2⟩ := hv.form
  unfold maxLen at l2
  have HI := Lib.hid hu
  obtain ⟨ai, capi, rfl, l3, l4⟩ := Ints.form hu
  unfold maxLen at l4
  obtain ⟨m, hm⟩ : ∃ m, m = ns.length := ⟨_, rfl⟩
  rw [← hm] at l1 hn hv
  obtain ⟨n, hnn⟩ : ∃ n, n = zs.length := ⟨_, rfl⟩
  rw [← hnn] at l3 HI
  have HV := Lib.hid hv
  have HM := Lib.hid hm
  have HG := Lib.hid hg
  have HNN := Lib.hid hnn
  have HB0 : Hid (Below w.heap.size w (w.alloc (.cells #[.int .i64 0] 3))) := Lib.hid ((Below.refl _ _).alloc (Nat.le_refl _) _)
  have HR0 : Hid ((w.alloc (.cells #[.int .i64 0] 3)).ownsRow w.heap.size 3 1 (.slice (some ⟨w.heap.size, 0, none⟩) 1 1) 1 [.int .i64 0]) := Lib.hid (World.ownsRow_lit w #[.int .i64 0] 1 (Nat.le_refl _) (by unfold maxLen; omega) rfl)
  rw [← hm, ← hnn]
  clear hv hm hg hnn hu
  go_enter Try.func10, Try.ntmps10
  go_wp2_with fail
  go_loopw [5, 6, 7] (fun l kv i wr => ∃ (k kk : Nat) (L : List Int) (lv : Value), k ≤ m ∧ kk ≤ k ∧ i = .int .i64 k ∧ kv = .int .i64 kk ∧ l = lv ∧ L.length = k + 1 ∧ Hid (tSt zs ((ns.map absN).take k) = (L, kk)) ∧ Hid (wr.ownsRow w.heap.size 3 1 lv L.length (L.map (Value.int .i64)) ∧ Below w.heap.size w wr)) (fun _ _ i _ => m - (intOf i).toNat)
  case atStart => exact ⟨0, 0, [0], _, Nat.zero_le _, Nat.le_refl _, rfl, rfl, rfl, rfl, Lib.hid rfl, Lib.hid ⟨HR0.out, HB0.out⟩⟩
  case round =>
    clear HB0 HR0
    obtain ⟨k, kk, L, lv, hk, hkk, rfl, rfl, hlv, hL, HST, HW⟩ := hrel
    obtain rfl : lv = _ := hlv.symm
    obtain ⟨wo, rfl⟩ : ∃ wo : World, wo = wr := ⟨_, rfl⟩
    by_cases hlt : k < m
    · obtain ⟨b, off, rfl, -, e1, e2⟩ := (HV.out.on HW.out.2).at_ hlt
      have HAT := Lib.hid (absN_at (ns := ns) (k := k) (by rw [← HM.out]; exact hlt))
      have hgg := HG.out k (by rw [← HM.out]; exact hlt)
      obtain ⟨pq, hpq⟩ : ∃ pq, pq = ns.getD k (0, 0) := ⟨_, rfl⟩
      rw [← hpq] at e1 e2 HAT hgg
      obtain ⟨p, q⟩ := pq
      simp only at e1 e2 hgg
      have HS2 : Hid (tSt zs ((ns.map absN).take (k + 1)) = tStep zs (L, kk) (absN (p, q))) := Lib.hid (by rw [tSt_step zs HAT.out, HST.out])
      have hsz := HW.out.2.size
      have d1 : (k : Int) < (m : Int) := by omega
      have d2 : 0 ≤ (k : Int) := by omega
      have KN : Hid (∀ u, Below w.heap.size w u → u.cell? ⟨b, off + k * 2, none⟩ = some (.int .i64 p) ∧ u.cell? ⟨b, off + k * 2 + 1, none⟩ = some (.int .i64 q)) := Lib.hid (fun u hu => by
        obtain ⟨b', off', hbo, -, k1, k2⟩ := (HV.out.on hu).at_ hlt
        obtain ⟨rfl, rfl, -⟩ := Addr.mk.inj (Option.some.inj hbo)
        rw [← hpq] at k1 k2
        exact ⟨k1, k2⟩)
      have HLL := Lib.hid hL
      have hLb : L.length ≤ 1001 := by omega
      clear hpq
      by_cases g0 : p < 0
      · have c1 : decide (0 ≤ p) = false := by simp; omega
        by_cases hkn : kk < n
        · obtain ⟨b', off', rfl, -, e3⟩ := Ints.at_ (Ints.on HI.out HW.out.2) hkn
          obtain ⟨z, hz⟩ : ∃ z, z = zs.getD kk 0 := ⟨_, rfl⟩
          rw [← hz] at e3
          have HZ := Lib.hid hz
          have d3 : (kk : Int) < (n : Int) := by omega
          have d4 : 0 ≤ (kk : Int) := by omega
          have HKN := Lib.hid hkn
          clear hz hkn
          rcases tv3 z with rfl | rfl | h2
          · have HR : Hid (tStep zs (L, kk) none = (L ++ [0], kk + 1)) := Lib.hid (by show (L ++ [tIn zs kk], kk + 1) = _; rw [tIn_of HNN.out HKN.out HZ.out (show tv 0 = 0 from rfl)])
            have HN : Hid (tSt zs ((ns.map absN).take (k + 1)) = (L ++ [0], kk + 1)) := Lib.hid (by rw [HS2.out, show absN (p, q) = none by unfold absN; rw [if_pos g0], HR.out])
            clear g0 hgg hL
            have HROW := Lib.hid (own_on HW.out.1 ((Below.refl _ wo).alloc (Nat.le_refl _) (.cells #[.int .i64 0] 3)))
            go_wp2_with (at_builtin; refine wpList_append_lies _ rfl (.tmp 62) (.tmp 64) 23 rfl w.heap.size 3 i0 (.int .i64 0) 1 8 Try.underlying23 hi hz0 hz1 hz2 rfl (by decide) lv L.length (L.map (Value.int .i64)) rfl HROW.out ⟨wo.heap.size, 0, none⟩ 1 1 [.int .i64 0] rfl rfl (news1 _ _ _) (one_cell _) (by omega) (by unfold maxLen; omega) (by omega) (by simp; omega) _ rfl ?_)
            intro t2 c2 w3 hown hgrow hat _
            have HE := Lib.hid (row_end HW.out.2 hsz HW.out.1 hown hgrow)
            clear hown hgrow hat
            go_wp2_with fail
            go_roundw
            case rel => exact ⟨k + 1, kk + 1, L ++ [0], .slice (some ⟨t2, 0, none⟩) (L.length + 1) c2, by omega, by omega, by go_num, by go_num, rfl, by rw [List.length_append, List.length_singleton, HLL.out], HN, HE⟩
            case measure => simp [intOf]; omega
          · have HR : Hid (tStep zs (L, kk) none = (L ++ [1], kk + 1)) := Lib.hid (by show (L ++ [tIn zs kk], kk + 1) = _; rw [tIn_of HNN.out HKN.out HZ.out (show tv 1 = 1 from rfl)])
            have HN : Hid (tSt zs ((ns.map absN).take (k + 1)) = (L ++ [1], kk + 1)) := Lib.hid (by rw [HS2.out, show absN (p, q) = none by unfold absN; rw [if_pos g0], HR.out])
            clear g0 hgg hL
            have HROW := Lib.hid (own_on HW.out.1 ((Below.refl _ wo).alloc (Nat.le_refl _) (.cells #[.int .i64 1] 3)))
            go_wp2_with (at_builtin; refine wpList_append_lies _ rfl (.tmp 62) (.tmp 64) 23 rfl w.heap.size 3 i0 (.int .i64 0) 1 8 Try.underlying23 hi hz0 hz1 hz2 rfl (by decide) lv L.length (L.map (Value.int .i64)) rfl HROW.out ⟨wo.heap.size, 0, none⟩ 1 1 [.int .i64 1] rfl rfl (news1 _ _ _) (one_cell _) (by omega) (by unfold maxLen; omega) (by omega) (by simp; omega) _ rfl ?_)
            intro t2 c2 w3 hown hgrow hat _
            have HE := Lib.hid (row_end HW.out.2 hsz HW.out.1 hown hgrow)
            clear hown hgrow hat
            go_wp2_with fail
            go_roundw
            case rel => exact ⟨k + 1, kk + 1, L ++ [1], .slice (some ⟨t2, 0, none⟩) (L.length + 1) c2, by omega, by omega, by go_num, by go_num, rfl, by rw [List.length_append, List.length_singleton, HLL.out], HN, HE⟩
            case measure => simp [intOf]; omega
          · have HR : Hid (tStep zs (L, kk) none = (L ++ [2], kk + 1)) := Lib.hid (by show (L ++ [tIn zs kk], kk + 1) = _; rw [tIn_of HNN.out HKN.out HZ.out (tv_other h2)])
            obtain ⟨c2, c3⟩ := tri.ne0 h2
            clear h2
            have HN : Hid (tSt zs ((ns.map absN).take (k + 1)) = (L ++ [2], kk + 1)) := Lib.hid (by rw [HS2.out, show absN (p, q) = none by unfold absN; rw [if_pos g0], HR.out])
            clear g0 hgg hL
            have HROW := Lib.hid (own_on HW.out.1 ((Below.refl _ wo).alloc (Nat.le_refl _) (.cells #[.int .i64 2] 3)))
            go_wp2_with (at_builtin; refine wpList_append_lies _ rfl (.tmp 62) (.tmp 64) 23 rfl w.heap.size 3 i0 (.int .i64 0) 1 8 Try.underlying23 hi hz0 hz1 hz2 rfl (by decide) lv L.length (L.map (Value.int .i64)) rfl HROW.out ⟨wo.heap.size, 0, none⟩ 1 1 [.int .i64 2] rfl rfl (news1 _ _ _) (one_cell _) (by omega) (by unfold maxLen; omega) (by omega) (by simp; omega) _ rfl ?_)
            intro t2 c2 w3 hown hgrow hat _
            have HE := Lib.hid (row_end HW.out.2 hsz HW.out.1 hown hgrow)
            clear hown hgrow hat
            go_wp2_with fail
            go_roundw
            case rel => exact ⟨k + 1, kk + 1, L ++ [2], .slice (some ⟨t2, 0, none⟩) (L.length + 1) c2, by omega, by omega, by go_num, by go_num, rfl, by rw [List.length_append, List.length_singleton, HLL.out], HN, HE⟩
            case measure => simp [intOf]; omega
        · have c2 : decide (kk < n) = false := by simp; omega
          have HR : Hid (tStep zs (L, kk) none = (L ++ [2], kk + 1)) := Lib.hid (by show (L ++ [tIn zs kk], kk + 1) = _; rw [tIn_no HNN.out hkn])
          clear hkn
          have HN : Hid (tSt zs ((ns.map absN).take (k + 1)) = (L ++ [2], kk + 1)) := Lib.hid (by rw [HS2.out, show absN (p, q) = none by unfold absN; rw [if_pos g0], HR.out])
          clear g0 hgg hL
          have HROW := Lib.hid (own_on HW.out.1 ((Below.refl _ wo).alloc (Nat.le_refl _) (.cells #[.int .i64 2] 3)))
          go_wp2_with (at_builtin; refine wpList_append_lies _ rfl (.tmp 62) (.tmp 64) 23 rfl w.heap.size 3 i0 (.int .i64 0) 1 8 Try.underlying23 hi hz0 hz1 hz2 rfl (by decide) lv L.length (L.map (Value.int .i64)) rfl HROW.out ⟨wo.heap.size, 0, none⟩ 1 1 [.int .i64 2] rfl rfl (news1 _ _ _) (one_cell _) (by omega) (by unfold maxLen; omega) (by omega) (by simp; omega) _ rfl ?_)
          intro t2 c2 w3 hown hgrow hat _
          have HE := Lib.hid (row_end HW.out.2 hsz HW.out.1 hown hgrow)
          clear hown hgrow hat
          go_wp2_with fail
          go_roundw
          case rel => exact ⟨k + 1, kk + 1, L ++ [2], .slice (some ⟨t2, 0, none⟩) (L.length + 1) c2, by omega, by omega, by go_num, by go_num, rfl, by rw [List.length_append, List.length_singleton, HLL.out], HN, HE⟩
          case measure => simp [intOf]; omega
      · have c1 : decide (0 ≤ p) = true := by simp; omega
        obtain ⟨g1, g2, g3⟩ := hgg (by omega)
        obtain ⟨x, rfl⟩ := Int.eq_ofNat_of_zero_le (show 0 ≤ p by omega)
        obtain ⟨y, rfl⟩ := Int.eq_ofNat_of_zero_le g2
        obtain ⟨r, hr⟩ : ∃ r, r = tAnd (tLit L (x : Int)) (tLit L (y : Int)) := ⟨_, rfl⟩
        have HN : Hid (tSt zs ((ns.map absN).take (k + 1)) = (L ++ [r], kk)) := Lib.hid (by
          rw [HS2.out, show absN ((x : Int), (y : Int)) = some (x, y) by unfold absN; rw [if_neg g0]; simp]
          show (L ++ [tAnd (tLit L (x : Int)) (tLit L (y : Int))], kk) = _
          rw [← hr])
        have HR := Lib.hid hr
        clear g0 hgg g1 g2 g3 hL hr
        obtain ⟨la, lcap, hlv⟩ : ∃ la lcap, lv = .slice la L.length lcap := by
          rcases HW.out.1.2 with ⟨h, h0⟩ | ⟨g, c, cur, h, -⟩
          · exact ⟨none, 0, by rw [h, h0]⟩
          · exact ⟨_, _, h⟩
        have HRO := Lib.hid (own_on HW.out.1 (below_drewN (Below.refl _ _) 1))
        have HBW : Hid (Below w.heap.size w (wo.drewN 1)) := Lib.hid (below_drewN HW.out.2 1)
        have hsz2 := HBW.out.size
        have KC : Hid (∀ u, Below w.heap.size w u → u.cell? ⟨b, off + k * 2, none⟩ = some (.int .i64 (x : Int)) ∧ u.cell? ⟨b, off + k * 2 + 1, none⟩ = some (.int .i64 (y : Int))) := Lib.hid (fun u hu => KN.out u hu)
        have HROW := Lib.hid (own_on HRO.out ((Below.refl _ (wo.drewN 1)).alloc (Nat.le_refl _) (.cells #[.int .i64 r] 3)))
        have HLI : Hid (Ints (wo.drewN 1) lv L) := Lib.hid (ints_of_owned HRO.out)
        have HFX : Hid (∀ la' cap', lv = .slice la' L.length cap' → Calls Try.prog 22 #[.slice la' L.length cap', .int .i64 (x : Int)] (wo.drewN 1) fun e w' => e = .returned (.int .i64 (tLit L (x : Int))) ∧ wo.drewN 1 = w') := Lib.hid (fun la' cap' h => tri.refLit_any la' _ cap' L (x : Int) _ (h ▸ HLI.out))
        have HFY : Hid (∀ la' cap', lv = .slice la' L.length cap' → Calls Try.prog 22 #[.slice la' L.length cap', .int .i64 (y : Int)] (wo.drewN 1) fun e w' => e = .returned (.int .i64 (tLit L (y : Int))) ∧ wo.drewN 1 = w') := Lib.hid (fun la' cap' h => tri.refLit_any la' _ cap' L (y : Int) _ (h ▸ HLI.out))
        subst hlv
        have HF1 := Lib.hid (HFX.out _ _ rfl)
        have HF2 := Lib.hid (HFY.out _ _ rfl)
        have HF3 : Hid (Calls Try.prog 21 #[.int .i64 (tLit L (x : Int)), .int .i64 (tLit L (y : Int))] (wo.drewN 1) fun e w' => e = .returned (.int .i64 r) ∧ wo.drewN 1 = w') := Lib.hid (by rw [HR.out]; exact tri.refAnd_any _ _ _)
        clear HFX HFY HLI
        go_upto_region 6 with fail
        go_region_held3 (fun w' => w'.cell? ⟨b, off + k * 2, none⟩ = some (.int .i64 (x : Int)) ∧ w'.cell? ⟨b, off + k * 2 + 1, none⟩ = some (.int .i64 (y : Int)))
          (first | (exact KC.out _ hbe.2) | go_keep)
          (first | (refine step_append_lies _ rfl (.tmp 22) (.tmp 38) 23 rfl w.heap.size 3 i0 (.int .i64 0) 1 8 Try.underlying23 hi hz0 hz1 hz2 rfl (by decide) (.slice la L.length lcap) L.length (L.map (Value.int .i64)) rfl HROW.out ⟨(wo.drewN 1).heap.size, 0, none⟩ 1 1 [.int .i64 r] rfl rfl (news1 _ _ _) (one_cell _) (by omega) (by unfold maxLen; omega) (by omega) (by simp; omega) _ rfl ?_; intro t2 c2 w3 hown hgrow hat hlt3; have hbe := row_end HBW.out hsz2 HRO.out hown hgrow) | (go_at_call_of 22 (Value.int IntKind.i64 (x : Int)); refine HF1.out.mono ?_; rintro e w' ⟨rfl, rfl⟩) | (go_at_call 22; refine HF2.out.mono ?_; rintro e w' ⟨rfl, rfl⟩) | (go_at_call 21; refine HF3.out.mono ?_; rintro e w' ⟨rfl, rfl⟩))
        have HE := Lib.hid hbe
        clear hown hgrow hat hbe
        go_wp2_with fail
        go_roundw
        case rel => exact ⟨k + 1, kk, L ++ [r], .slice (some ⟨t2, 0, none⟩) (L.length + 1) c2, by omega, by omega, by go_num, by go_num, rfl, by rw [List.length_append, List.length_singleton, HLL.out], HN, HE⟩
        case measure => simp [intOf]; omega
    · obtain rfl : m = k := by omega
      have HE : Hid (Told (tSt zs (ns.map absN)).1 w (.returned lv) wo) := Lib.hid (by
        have e := HST.out
        rw [List.take_of_length_le (by rw [List.length_map, ← HM.out]; exact Nat.le_refl _)] at e
        rw [e]; exact ⟨lv, rfl, HW.out.1, HW.out.2⟩)
      clear hlt hk hL
      go_wp2_with fail
      go_ret
      exact HE.out
theorem sure_take (N : Net) (ins ls : List Int) {k : Nat} (h : k < ls.length) : tSure N ins (ls.take (k + 1)) = (tSure N ins (ls.take k) && (tLit (tSt ins N).1 (ls.getD k 0) == 1)) := by
  unfold tSure
  rw [List.take_succ_eq_append_getElem h, List.all_append]
  simp [List.getD, h]
theorem sure_no {N : Net} {ins ls : List Int} {k : Nat} (h : k < ls.length) (h2 : (tLit (tSt ins N).1 (ls.getD k 0) == 1) = false) : tSure N ins ls = false := by
  cases e : tSure N ins ls with
  | false => rfl
  | true =>
    unfold tSure at e
    rw [List.all_eq_true] at e
    have := e (ls.getD k 0) (by simp [List.getD, h])
    rw [h2] at this; cases this
theorem rLit_of {ls : List Int} {x r : Int} (hr : tLit ls x = r) (a : Option Addr) (n cap : Nat) (w : World) (hv : Ints w (.slice a n cap) ls) :
    Calls Try.prog 22 #[.slice a n cap, .int .i64 x] w fun e w' => e = .returned (.int .i64 r) ∧ w = w' := by
  have := tri.refLit_any a n cap ls x w hv
  rw [hr] at this; exact this
set_option maxRecDepth 100000 in
set_option maxHeartbeats 1600000 in
theorem refSure_any (P : Nat → Prop) (v u lv : Value) (ns : List (Int × Int)) (zs ls : List Int) (w : World) (hv : KNds P w v ns) (hn : ns.length ≤ 1000) (hg : GoodN ns) (hu : Ints w u zs) (hl : Ints w lv ls) :
    Calls Try.prog 14 #[v, u, lv] w fun e w' => e = .returned (.bool (tSure (ns.map absN) zs ls)) ∧ Below w.heap.size w w' := by
  have HC := Lib.hid (refEval_any P v u ns zs w hv hn hg hu)
  have HS := Lib.hid (fun k h => sure_take (ns.map absN) zs ls (k := k) h)
  have HSN := Lib.hid (fun k h => sure_no (N := ns.map absN) (ins := zs) (ls := ls) (k := k) h)
  obtain ⟨T, hT⟩ : ∃ T, T = (tSt zs (ns.map absN)).1 := ⟨_, rfl⟩
  rw [← hT] at HC HS HSN
  obtain ⟨la, lcap, rfl, l3, l4⟩ := Ints.form hl
  unfold maxLen at l4
  have HL := Lib.hid hl
  obtain ⟨n, hnn⟩ : ∃ n, n = ls.length := ⟨_, rfl⟩
  rw [← hnn] at l3 HL ⊢
  have HNN := Lib.hid hnn
  have HT := Lib.hid hT
  clear hv hn hg hu hl hnn hT
  go_enter Try.func14, Try.ntmps14
  go_wp2_with fail
  go_at_call 10; refine HC.out.mono ?_; rintro e w1 ⟨tv, rfl, r1, b1⟩
  have HI := Lib.hid (ints_of_owned r1)
  have HB := Lib.hid b1
  obtain ⟨ta, tcap, rfl, t1, t2⟩ := Ints.form HI.out
  obtain ⟨q, hq⟩ : ∃ q, q = T.length := ⟨_, rfl⟩
  rw [← hq] at HI
  rw [← hq]
  clear r1 b1 hq t1 t2
  go_wp2_with fail
  go_loop [8] (fun i => ∃ k : Nat, k ≤ n ∧ i = .int .i64 k ∧ Hid (tSure (ns.map absN) zs (ls.take k) = true)) (fun i => n - (intOf i).toNat)
  case atStart => exact ⟨0, Nat.zero_le _, rfl, Lib.hid rfl⟩
  case round =>
    obtain ⟨k, hk, rfl, HK⟩ := hrel
    by_cases hlt : k < n
    · obtain ⟨b, off, rfl, -, e1⟩ := Ints.at_ (Ints.on HL.out HB.out) hlt
      have HS1 := Lib.hid (HS.out k (by rw [← HNN.out]; exact hlt))
      have HS2 := Lib.hid (HSN.out k (by rw [← HNN.out]; exact hlt))
      obtain ⟨z, hz⟩ : ∃ z, z = ls.getD k 0 := ⟨_, rfl⟩
      rw [← hz] at e1 HS1 HS2
      obtain ⟨r, hr⟩ : ∃ r, tLit T z = r := ⟨_, rfl⟩
      rw [hr] at HS1 HS2
      have HR := Lib.hid hr
      have d1 : (k : Int) < (n : Int) := by omega
      have d2 : 0 ≤ (k : Int) := by omega
      clear hz hr
      by_cases h1 : r = 1
      · have HK2 : Hid (tSure (ns.map absN) zs (ls.take (k + 1)) = true) := Lib.hid (by rw [HS1.out, HK.out, h1]; rfl)
        have c1 : (r != 1) = false := by simp [h1]
        have c1' : (r == 1) = true := by simp [h1]
        clear h1
        go_wp2_with fail
        go_at_call 22; refine (rLit_of HR.out _ _ _ _ HI.out).mono ?_; rintro e w' ⟨rfl, rfl⟩
        go_wp2_with fail
        go_round
        case rel => exact ⟨k + 1, by omega, by go_num, HK2⟩
        case measure => simp [intOf]; omega
      · have HE : Hid (false = tSure (ns.map absN) zs ls) := Lib.hid (HS2.out (by simp [h1])).symm
        have c1 : (r != 1) = true := by simp [h1]
        have c1' : (r == 1) = false := by simp [h1]
        clear h1
        go_wp2_with fail
        go_at_call 22; refine (rLit_of HR.out _ _ _ _ HI.out).mono ?_; rintro e w' ⟨rfl, rfl⟩
        go_wp2_with fail
        go_ret
        exact ⟨mem.retB HE.out, HB.out⟩
    · obtain rfl : n = k := by omega
      have HE : Hid (true = tSure (ns.map absN) zs ls) := Lib.hid (by
        have e := HK.out
        rw [HNN.out, List.take_length] at e; exact e.symm)
      clear hlt hk
      go_wp2_with fail
      go_ret
      exact ⟨mem.retB HE.out, HB.out⟩
end Go.Proofs.Ytoacedadfjoneaa.aig
