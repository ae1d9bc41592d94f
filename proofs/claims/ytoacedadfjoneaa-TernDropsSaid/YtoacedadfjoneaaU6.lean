/- The walk of the statement that what is not open is so. (Printed by mkU6.py.) -/
import Derived.Test.YtoacedadfjoneaaU5
namespace Go.Proofs.Ytoacedadfjoneaa.aig
open Go.RowKit
open Go.Proofs.Ytoacedadfjoneaa.mem Go.Proofs.Ytoacedadfjoneaa.agf Go.Proofs.Ytoacedadfjoneaa.fns
open Go.Proofs.Ytoacedadfjoneaa.ints (Ints ints_of_owned refInts_same wpList_clone)

/-- the truth that is put for the k-th input -/
def allV (zs : List Int) (fs : List Bool) (k : Nat) : Bool := if k < zs.length ∧ (zs.getD k 0 = 0 ∨ zs.getD k 0 = 1) then decide (zs.getD k 0 = 1) else fs.getD k false
def allL (N : Net) (zs : List Int) (fs : List Bool) (t : Nat) : List Bool := (List.range (cntI N t)).map (allV zs fs)
theorem allL_step (N : Net) (zs : List Int) (fs : List Bool) (t : Nat) : allL N zs fs (t + 1) = allL N zs fs t ++ if N[t]? = some none then [allV zs fs (allL N zs fs t).length] else [] := by
  unfold allL
  rw [cntI_step]
  by_cases h : N[t]? = some none
  · rw [if_pos h, if_pos h, List.range_succ, List.map_append]; simp
  · rw [if_neg h, if_neg h]; simp
theorem allV_snd (zs : List Int) (fs : List Bool) (k : Nat) : Snd (tIn zs k) (allV zs fs k) := by
  unfold tIn allV
  by_cases hk : k < zs.length
  · rw [if_pos hk]
    rcases tv3 (zs.getD k 0) with h | h | h
    · rw [h, if_pos ⟨hk, .inl rfl⟩]; exact ⟨fun _ => rfl, fun e => absurd e (by decide)⟩
    · rw [h, if_pos ⟨hk, .inr rfl⟩]; exact ⟨fun e => absurd e (by decide), fun _ => rfl⟩
    · rw [tv_other h]; exact snd_two _
  · rw [if_neg hk]; exact snd_two _
theorem allV_in {zs : List Int} {fs : List Bool} {k n : Nat} {z : Int} (hn : n = zs.length) (hk : k < n) (hz : z = zs.getD k 0) (h : z = 0 ∨ z = 1) : allV zs fs k = decide (z = 1) := by
  unfold allV; rw [← hz, if_pos ⟨by omega, h⟩]
theorem allV_out {zs : List Int} {fs : List Bool} {k : Nat} {z : Int} (hz : z = zs.getD k 0) (h : z ≠ 0 ∧ z ≠ 1) : allV zs fs k = fs.getD k false := by
  unfold allV; rw [← hz, if_neg (fun e => by omega)]
theorem allV_past {zs : List Int} {fs : List Bool} {k n : Nat} (hn : n = zs.length) (hk : ¬ k < n) : allV zs fs k = fs.getD k false := by
  unfold allV; rw [if_neg (fun e => hk (by omega))]
/-- truths made behind x, grown: as it was below x, and below W -/
theorem brow_end2 {base A t c : Nat} {lv : Value} {L : List Bool} {r : Bool} {w x w1 w2 : World} {o : Obj} (hA : A ≤ base) (hb : Below A w w1) (hs : A ≤ w1.heap.size) (hx : Below base x w1) (hsx : base ≤ w1.heap.size) (hrow : w1.ownsRow base 4 1 lv L.length (L.map Value.bool))
    (hown : w2.ownsRow base 4 1 (.slice (some ⟨t, 0, none⟩) (L.length + 1) c) (L.length + 1) (L.map Value.bool ++ [.bool r])) (hg : (w1.alloc o).grownBy w2 lv.ownBlock) :
    w2.ownsRow base 4 1 (.slice (some ⟨t, 0, none⟩) (L.length + 1) c) (L ++ [r]).length ((L ++ [r]).map Value.bool) ∧ Below A w w2 ∧ Below base x w2 := by
  refine ⟨?_, (hb.alloc hs o).grown hg (by simp; omega) (fun k hk => Nat.le_trans hA (hrow.lt k hk).1), (hx.alloc hsx o).grown hg (by simp; omega) (fun k hk => (hrow.lt k hk).1)⟩
  rw [map_snocB] at hown
  rw [List.length_append, List.length_singleton]; exact hown
set_option maxRecDepth 100000 in
set_option maxHeartbeats 3200000 in
theorem sound10_any (C : TernOk) (v fv : Value) (ns : List (Int × Int)) (a : Option Addr) (n cap : Nat) (zs : List Int) (fs : List Bool) (W : World) (hv : KNds (fun _ => False) W v ns) (hu : Ints W (.slice a n cap) zs) (hnil : a = none → n = 0 ∧ cap = 0) (hf : KB W fv fs) :
    Calls Try.prog 5 #[v, .slice a n cap, fv] W fun e w' => e = .returned (.bool true) ∧ Below W.heap.size W w' := by
  obtain ⟨i0, hi, hz0, hz1, hz2⟩ := info_parts infoB
  have HV := Lib.hid hv
  have HU := Lib.hid hu
  have HNIL := Lib.hid hnil
  have HF := Lib.hid hf
  obtain ⟨fa, fcap, rfl, f1, f2⟩ := hf.form
  unfold maxLen at f2
  obtain ⟨nf, hnf⟩ : ∃ nf, nf = fs.length := ⟨_, rfl⟩
  rw [← hnf] at f1 HF ⊢
  have HNF := Lib.hid hnf
  obtain ⟨a', cap', hs, u1, u2⟩ := Ints.form hu
  obtain ⟨rfl, hn, rfl⟩ := Value.slice.inj hs
  unfold maxLen at u2
  rw [← hn] at u1
  have HN := Lib.hid hn
  obtain ⟨va, vcap, rfl, v1, v2⟩ := hv.form
  unfold maxLen at v2
  clear hv hu hnil hf hnf hn hs
  by_cases hsm : (ns.length : Int) ≤ 60 ∧ okB ns = true
  · have HSM := Lib.hid (small_yes hsm)
    have HG := Lib.hid (okB_good hsm.2)
    have HNL : Hid (ns.length ≤ 1000) := Lib.hid (by omega)
    obtain ⟨N, hNN⟩ : ∃ N, N = ns.map absN := ⟨_, rfl⟩
    have HNE := Lib.hid hNN
    have hNl : N.length = ns.length := by rw [hNN, List.length_map]
    have HSO := Lib.hid (fun (all : List Bool) (h : ∀ k, k < cntI N N.length → Snd (tIn zs k) (all.getD k false)) => sound_all (N := N) (by rw [hNN]; exact good_abs HG.out) (by rw [hNl]; exact HNL.out) h N.length (Nat.le_refl _))
    obtain ⟨m, hm⟩ : ∃ m, m = ns.length := ⟨_, rfl⟩
    have hm60 : m ≤ 60 := by omega
    have HM := Lib.hid hm
    have HNM : Hid (N.length = m) := Lib.hid (by rw [hNl, hm])
    rw [← hm] at v1 HV ⊢
    clear hsm hm hNN hNl
    by_cases c1 : n ≤ 80
    · have d1 : decide (80 < (n : Int)) = false := by simp; omega
      have HZL : Hid (zs.length ≤ 1000) := Lib.hid (by have := HN.out; omega)
      go_enter Try.func5, Try.ntmps5
      go_wp2_with fail
      go_at_call 6; refine (Small8_of HSM.out _ HV.out (by omega) (by omega)).mono ?_; rintro e w' ⟨rfl, rfl⟩
      go_wp2_with (at_builtin; refine wpList_clone _ rfl _ _ rfl rfl a n cap zs rfl HU.out HNIL.out (by omega) ?_)
      intro ov x1 o1 b1
      have HO1 := Lib.hid o1
      have HB1 := Lib.hid b1
      clear o1 b1
      go_wp2_with fail
      go_at_call 9; refine (C.eval _ _ ns zs _ (HV.out.on HB1.out) HG.out HNL.out HO1.out HZL.out).mono ?_; rintro e x2 ⟨u2', rfl, t2, b2⟩
      have HB2 := Lib.hid (HB1.out.trans (b2.mono HB1.out.size))
      have HT2 := Lib.hid t2
      have HTL : Hid ((tSt zs (ns.map absN)).1.length = m + 1) := Lib.hid (by rw [tSt_len, ← HNE.out, HNM.out])
      obtain ⟨ta, tcap, rfl, -, t9⟩ := Ints.form t2
      unfold maxLen at t9
      rw [← HNE.out] at HT2 HTL
      rw [← HNE.out]
      obtain ⟨q, hq⟩ : ∃ q, q = (tSt zs N).1.length := ⟨_, rfl⟩
      have HQM : Hid (q = m + 1) := Lib.hid (by rw [hq]; exact HTL.out)
      rw [← hq] at HT2
      rw [← hq]
      have hq61 : q ≤ 61 := by have := HQM.out; omega
      have HR0 : Hid ((x2.alloc (.cells #[] 4)).ownsRow x2.heap.size 4 1 (.slice (some ⟨x2.heap.size, 0, none⟩) 0 0) 0 []) := Lib.hid (World.ownsRow_made _ #[] 0 (Nat.le_refl _) (by unfold maxLen; omega) rfl)
      have HB0 : Hid (Below x2.heap.size x2 (x2.alloc (.cells #[] 4))) := Lib.hid (alloc_below _ _)
      have HL0 : Hid ([] = allL N zs fs 0) := Lib.hid rfl
      have HK0 : Hid ((0 : Nat) = cntI N 0) := Lib.hid rfl
      clear t2 b2 HO1 hq t9
      go_wp2_with fail
      go_loopw [8, 9, 10] (fun l kv i wr => ∃ (t : Nat) (L : List Bool) (lv : Value), t ≤ m ∧ i = .int .i64 t ∧ kv = .int .i64 (L.length : Int) ∧ l = lv ∧ L.length ≤ t ∧ Hid (L = allL N zs fs t) ∧ Hid (L.length = cntI N t) ∧ Hid (wr.ownsRow x2.heap.size 4 1 lv L.length (L.map Value.bool) ∧ Below W.heap.size W wr ∧ Below x2.heap.size x2 wr)) (fun _ _ i _ => m - (intOf i).toNat)
      case atStart => exact ⟨0, [], _, Nat.zero_le _, rfl, rfl, rfl, Nat.le_refl _, HL0, HK0, Lib.hid ⟨HR0.out, HB2.out.trans (HB0.out.mono HB2.out.size), HB0.out⟩⟩
      case round =>
        clear HR0 HB0 HL0 HK0
        obtain ⟨t, L, lv, ht, rfl, rfl, hlv, hL, HLI, HKK, HY⟩ := hrel
        obtain rfl : lv = _ := hlv.symm
        obtain ⟨wo, rfl⟩ : ∃ wo : World, wo = wr := ⟨_, rfl⟩
        have hwz := HY.out.2.1.size
        have hwx := HY.out.2.2.size
        have hLb : L.length ≤ 60 := by omega
        by_cases hlt : t < m
        · obtain ⟨b, off, rfl, -, e1, -⟩ := (HV.out.on HY.out.2.1).at_ hlt
          have HAT : Hid (N[t]? = some (absN (ns.getD t (0, 0)))) := Lib.hid (by rw [HNE.out]; exact absN_at (by rw [← HM.out]; exact hlt))
          have HST := Lib.hid (allL_step N zs fs t)
          have HCS := Lib.hid (cntI_step N t)
          obtain ⟨pq, hpq⟩ : ∃ pq, pq = ns.getD t (0, 0) := ⟨_, rfl⟩
          rw [← hpq] at e1 HAT
          obtain ⟨p, y⟩ := pq
          simp only at e1
          have d2 : (t : Int) < (m : Int) := by omega
          have d3 : 0 ≤ (t : Int) := by omega
          have d4 : 0 ≤ (L.length : Int) := by omega
          clear hpq
          by_cases g0 : p < 0
          · have c2 : decide (0 ≤ p) = false := by simp; omega
            have HABS : Hid (N[t]? = some none) := Lib.hid (by rw [HAT.out]; unfold absN; rw [if_pos g0])
            clear g0
            by_cases hkn : L.length < n
            · obtain ⟨b', off', rfl, -, e3⟩ := Ints.at_ (Ints.on HU.out HY.out.2.1) hkn
              obtain ⟨z, hz⟩ : ∃ z, z = zs.getD L.length 0 := ⟨_, rfl⟩
              rw [← hz] at e3
              have HZ := Lib.hid hz
              have HKN := Lib.hid hkn
              have d5 : (L.length : Int) < (n : Int) := by omega
              clear hz
              rcases tv3 z with rfl | rfl | h2
              · have HR : Hid (allV zs fs L.length = false) := Lib.hid (allV_in HN.out HKN.out HZ.out (.inl rfl))
                have HN : Hid (L ++ [false] = allL N zs fs (t + 1)) := Lib.hid (by rw [HST.out, HABS.out, if_pos rfl, ← HLI.out, HR.out])
                have HKK2 : Hid (L.length + 1 = cntI N (t + 1)) := Lib.hid (by rw [HCS.out, HABS.out, if_pos rfl, ← HKK.out])
                have HROW := Lib.hid (own_on HY.out.1 ((Below.refl _ wo).alloc (Nat.le_refl _) (.cells #[.bool false] 4)))
                go_wp2_with (at_builtin; refine wpList_append_lies _ rfl (.tmp 58) (.tmp 64) 35 rfl x2.heap.size 4 i0 (.bool false) 1 1 Try.underlying35 hi hz0 hz1 hz2 rfl (by decide) lv L.length (L.map Value.bool) rfl HROW.out ⟨wo.heap.size, 0, none⟩ 1 1 [.bool false] rfl rfl (news1 _ _ _) (one_bool _) (by omega) (by unfold maxLen; omega) (by omega) (by simp; omega) _ rfl ?_)
                intro t2 c2 w3 hown hgrow hat _
                have HE := Lib.hid (brow_end2 HB2.out.size HY.out.2.1 hwz HY.out.2.2 hwx HY.out.1 hown hgrow)
                clear hown hgrow hat
                go_wp2_with fail
                go_roundw
                case rel => exact ⟨t + 1, L ++ [false], .slice (some ⟨t2, 0, none⟩) (L.length + 1) c2, by omega, by go_num, by rw [List.length_append, List.length_singleton]; go_num, rfl, by simp; omega, HN, by rw [List.length_append, List.length_singleton]; exact HKK2, HE⟩
                case measure => simp [intOf]; omega
              · have HR : Hid (allV zs fs L.length = true) := Lib.hid (allV_in HN.out HKN.out HZ.out (.inr rfl))
                have HN : Hid (L ++ [true] = allL N zs fs (t + 1)) := Lib.hid (by rw [HST.out, HABS.out, if_pos rfl, ← HLI.out, HR.out])
                have HKK2 : Hid (L.length + 1 = cntI N (t + 1)) := Lib.hid (by rw [HCS.out, HABS.out, if_pos rfl, ← HKK.out])
                have HROW := Lib.hid (own_on HY.out.1 ((Below.refl _ wo).alloc (Nat.le_refl _) (.cells #[.bool true] 4)))
                go_wp2_with (at_builtin; refine wpList_append_lies _ rfl (.tmp 58) (.tmp 64) 35 rfl x2.heap.size 4 i0 (.bool false) 1 1 Try.underlying35 hi hz0 hz1 hz2 rfl (by decide) lv L.length (L.map Value.bool) rfl HROW.out ⟨wo.heap.size, 0, none⟩ 1 1 [.bool true] rfl rfl (news1 _ _ _) (one_bool _) (by omega) (by unfold maxLen; omega) (by omega) (by simp; omega) _ rfl ?_)
                intro t2 c2 w3 hown hgrow hat _
                have HE := Lib.hid (brow_end2 HB2.out.size HY.out.2.1 hwz HY.out.2.2 hwx HY.out.1 hown hgrow)
                clear hown hgrow hat
                go_wp2_with fail
                go_roundw
                case rel => exact ⟨t + 1, L ++ [true], .slice (some ⟨t2, 0, none⟩) (L.length + 1) c2, by omega, by go_num, by rw [List.length_append, List.length_singleton]; go_num, rfl, by simp; omega, HN, by rw [List.length_append, List.length_singleton]; exact HKK2, HE⟩
                case measure => simp [intOf]; omega
              · obtain ⟨c3, c4⟩ := tri.ne0 h2
                obtain ⟨r, hr⟩ : ∃ r, r = fs.getD L.length false := ⟨_, rfl⟩
                have HR : Hid (allV zs fs L.length = r) := Lib.hid (by rw [hr]; exact allV_out HZ.out h2)
                clear h2
                by_cases hkf : L.length < nf
                · obtain ⟨b2, off2, rfl, -, e4⟩ := (HF.out.on HY.out.2.1).at_ hkf
                  rw [← hr] at e4
                  have d6 : (L.length : Int) < (nf : Int) := by omega
                  clear hr hkf
                  have HN : Hid (L ++ [r] = allL N zs fs (t + 1)) := Lib.hid (by rw [HST.out, HABS.out, if_pos rfl, ← HLI.out, HR.out])
                  have HKK2 : Hid (L.length + 1 = cntI N (t + 1)) := Lib.hid (by rw [HCS.out, HABS.out, if_pos rfl, ← HKK.out])
                  have HROW := Lib.hid (own_on HY.out.1 ((Below.refl _ wo).alloc (Nat.le_refl _) (.cells #[.bool r] 4)))
                  go_wp2_with (at_builtin; refine wpList_append_lies _ rfl (.tmp 66) (.tmp 77) 35 rfl x2.heap.size 4 i0 (.bool false) 1 1 Try.underlying35 hi hz0 hz1 hz2 rfl (by decide) lv L.length (L.map Value.bool) rfl HROW.out ⟨wo.heap.size, 0, none⟩ 1 1 [.bool r] rfl rfl (news1 _ _ _) (one_bool _) (by omega) (by unfold maxLen; omega) (by omega) (by simp; omega) _ rfl ?_)
                  intro t2 c2 w3 hown hgrow hat _
                  have HE := Lib.hid (brow_end2 HB2.out.size HY.out.2.1 hwz HY.out.2.2 hwx HY.out.1 hown hgrow)
                  clear hown hgrow hat
                  go_wp2_with fail
                  go_roundw
                  case rel => exact ⟨t + 1, L ++ [r], .slice (some ⟨t2, 0, none⟩) (L.length + 1) c2, by omega, by go_num, by rw [List.length_append, List.length_singleton]; go_num, rfl, by simp; omega, HN, by rw [List.length_append, List.length_singleton]; exact HKK2, HE⟩
                  case measure => simp [intOf]; omega
                · have d6 : decide (L.length < nf) = false := by simp; omega
                  obtain rfl : r = false := by rw [hr, getD_none (by rw [← HNF.out]; omega)]
                  clear hr hkf
                  have HN : Hid (L ++ [false] = allL N zs fs (t + 1)) := Lib.hid (by rw [HST.out, HABS.out, if_pos rfl, ← HLI.out, HR.out])
                  have HKK2 : Hid (L.length + 1 = cntI N (t + 1)) := Lib.hid (by rw [HCS.out, HABS.out, if_pos rfl, ← HKK.out])
                  have HROW := Lib.hid (own_on HY.out.1 ((Below.refl _ wo).alloc (Nat.le_refl _) (.cells #[.bool false] 4)))
                  go_wp2_with (at_builtin; refine wpList_append_lies _ rfl (.tmp 66) (.tmp 77) 35 rfl x2.heap.size 4 i0 (.bool false) 1 1 Try.underlying35 hi hz0 hz1 hz2 rfl (by decide) lv L.length (L.map Value.bool) rfl HROW.out ⟨wo.heap.size, 0, none⟩ 1 1 [.bool false] rfl rfl (news1 _ _ _) (one_bool _) (by omega) (by unfold maxLen; omega) (by omega) (by simp; omega) _ rfl ?_)
                  intro t2 c2 w3 hown hgrow hat _
                  have HE := Lib.hid (brow_end2 HB2.out.size HY.out.2.1 hwz HY.out.2.2 hwx HY.out.1 hown hgrow)
                  clear hown hgrow hat
                  go_wp2_with fail
                  go_roundw
                  case rel => exact ⟨t + 1, L ++ [false], .slice (some ⟨t2, 0, none⟩) (L.length + 1) c2, by omega, by go_num, by rw [List.length_append, List.length_singleton]; go_num, rfl, by simp; omega, HN, by rw [List.length_append, List.length_singleton]; exact HKK2, HE⟩
                  case measure => simp [intOf]; omega
            · have d5 : decide (L.length < n) = false := by simp; omega
              obtain ⟨r, hr⟩ : ∃ r, r = fs.getD L.length false := ⟨_, rfl⟩
              have HR : Hid (allV zs fs L.length = r) := Lib.hid (by rw [hr]; exact allV_past HN.out hkn)
              clear hkn
              by_cases hkf : L.length < nf
              · obtain ⟨b2, off2, rfl, -, e4⟩ := (HF.out.on HY.out.2.1).at_ hkf
                rw [← hr] at e4
                have d6 : (L.length : Int) < (nf : Int) := by omega
                clear hr hkf
                have HN : Hid (L ++ [r] = allL N zs fs (t + 1)) := Lib.hid (by rw [HST.out, HABS.out, if_pos rfl, ← HLI.out, HR.out])
                have HKK2 : Hid (L.length + 1 = cntI N (t + 1)) := Lib.hid (by rw [HCS.out, HABS.out, if_pos rfl, ← HKK.out])
                have HROW := Lib.hid (own_on HY.out.1 ((Below.refl _ wo).alloc (Nat.le_refl _) (.cells #[.bool r] 4)))
                go_wp2_with (at_builtin; refine wpList_append_lies _ rfl (.tmp 66) (.tmp 77) 35 rfl x2.heap.size 4 i0 (.bool false) 1 1 Try.underlying35 hi hz0 hz1 hz2 rfl (by decide) lv L.length (L.map Value.bool) rfl HROW.out ⟨wo.heap.size, 0, none⟩ 1 1 [.bool r] rfl rfl (news1 _ _ _) (one_bool _) (by omega) (by unfold maxLen; omega) (by omega) (by simp; omega) _ rfl ?_)
                intro t2 c2 w3 hown hgrow hat _
                have HE := Lib.hid (brow_end2 HB2.out.size HY.out.2.1 hwz HY.out.2.2 hwx HY.out.1 hown hgrow)
                clear hown hgrow hat
                go_wp2_with fail
                go_roundw
                case rel => exact ⟨t + 1, L ++ [r], .slice (some ⟨t2, 0, none⟩) (L.length + 1) c2, by omega, by go_num, by rw [List.length_append, List.length_singleton]; go_num, rfl, by simp; omega, HN, by rw [List.length_append, List.length_singleton]; exact HKK2, HE⟩
                case measure => simp [intOf]; omega
              · have d6 : decide (L.length < nf) = false := by simp; omega
                obtain rfl : r = false := by rw [hr, getD_none (by rw [← HNF.out]; omega)]
                clear hr hkf
                have HN : Hid (L ++ [false] = allL N zs fs (t + 1)) := Lib.hid (by rw [HST.out, HABS.out, if_pos rfl, ← HLI.out, HR.out])
                have HKK2 : Hid (L.length + 1 = cntI N (t + 1)) := Lib.hid (by rw [HCS.out, HABS.out, if_pos rfl, ← HKK.out])
                have HROW := Lib.hid (own_on HY.out.1 ((Below.refl _ wo).alloc (Nat.le_refl _) (.cells #[.bool false] 4)))
                go_wp2_with (at_builtin; refine wpList_append_lies _ rfl (.tmp 66) (.tmp 77) 35 rfl x2.heap.size 4 i0 (.bool false) 1 1 Try.underlying35 hi hz0 hz1 hz2 rfl (by decide) lv L.length (L.map Value.bool) rfl HROW.out ⟨wo.heap.size, 0, none⟩ 1 1 [.bool false] rfl rfl (news1 _ _ _) (one_bool _) (by omega) (by unfold maxLen; omega) (by omega) (by simp; omega) _ rfl ?_)
                intro t2 c2 w3 hown hgrow hat _
                have HE := Lib.hid (brow_end2 HB2.out.size HY.out.2.1 hwz HY.out.2.2 hwx HY.out.1 hown hgrow)
                clear hown hgrow hat
                go_wp2_with fail
                go_roundw
                case rel => exact ⟨t + 1, L ++ [false], .slice (some ⟨t2, 0, none⟩) (L.length + 1) c2, by omega, by go_num, by rw [List.length_append, List.length_singleton]; go_num, rfl, by simp; omega, HN, by rw [List.length_append, List.length_singleton]; exact HKK2, HE⟩
                case measure => simp [intOf]; omega
          · have c2 : decide (0 ≤ p) = true := by simp; omega
            have hne : ¬ N[t]? = some none := by rw [HAT.out]; unfold absN; rw [if_neg g0]; simp
            have HN2 : Hid (L = allL N zs fs (t + 1)) := Lib.hid (by rw [HST.out, if_neg hne, List.append_nil]; exact HLI.out)
            have HK2 : Hid (L.length = cntI N (t + 1)) := Lib.hid (by rw [HCS.out, if_neg hne]; exact HKK.out)
            clear g0 hne
            go_wp2_with fail
            go_roundw
            case rel => exact ⟨t + 1, L, lv, by omega, by go_num, rfl, rfl, by omega, HN2, HK2, HY⟩
            case measure => simp [intOf]; omega
        · obtain rfl : m = t := by omega
          have HSN : Hid (∀ j, Snd ((tSt zs N).1.getD j 0) ((st L N).1.getD j false)) := Lib.hid (by
            have h := HSO.out L (fun k hk => by
              rw [HLI.out]
              have hk2 : k < (allL N zs fs m).length := by unfold allL; rw [List.length_map, List.length_range, ← HNM.out]; exact hk
              have e : (allL N zs fs m).getD k false = allV zs fs k := by unfold allL at hk2 ⊢; simp [List.getD, show k < cntI N m by simpa using hk2]
              rw [e]; exact allV_snd zs fs k)
            rw [List.take_length] at h; exact h)
          have HKB := Lib.hid (kb_row HY.out.1)
          have HYB := Lib.hid HY.out.2
          have HSL : Hid ((st L N).1.length = q) := Lib.hid (by rw [st_len, HNM.out]; exact HQM.out.symm)
          clear hlt ht hL HLI HKK HY
          go_wp2_with fail
          go_at_call 17; refine (refValues_any (fun _ => False) _ _ ns L _ (HV.out.on HYB.out.1) HKB.out HG.out (by have := HNL.out; omega)).mono ?_; rintro e x7 ⟨sv, rfl, s7, b7⟩
          rw [← HNE.out] at s7
          have HB7 := Lib.hid (HYB.out.1.trans (b7.mono HYB.out.1.size))
          have HX7 := Lib.hid (HYB.out.2.trans (b7.mono HYB.out.2.size))
          have HS7 := Lib.hid (kb_row s7)
          obtain ⟨sa, scap, rfl, -, s9⟩ := HS7.out.form
          rw [HSL.out] at HS7
          rw [HSL.out]
          have HT7 := Lib.hid (Ints.on HT2.out HX7.out)
          obtain ⟨T, hT⟩ : ∃ T, T = (tSt zs N).1 := ⟨_, rfl⟩
          obtain ⟨B, hB⟩ : ∃ B, B = (st L N).1 := ⟨_, rfl⟩
          rw [← hT] at HT7 HSN
          rw [← hB] at HS7 HSN
          have c5 : ((q : Int) != (q : Int)) = false := by simp
          have c5' : (q != q) = false := by simp
          clear s7 b7 s9 hT hB HSL HKB
          go_wp2_with fail
          go_loop [12] (fun i => ∃ j : Nat, j ≤ q ∧ i = .int .i64 j) (fun i => q - (intOf i).toNat)
          case atStart => exact ⟨0, Nat.zero_le _, rfl⟩
          case round =>
            obtain ⟨j, hj, rfl⟩ := hrel
            by_cases hlt3 : j < q
            · obtain ⟨b, off, rfl, -, e1⟩ := Ints.at_ HT7.out hlt3
              obtain ⟨b', off', rfl, -, e2⟩ := HS7.out.at_ hlt3
              have hsn := HSN.out j
              obtain ⟨x, hx⟩ : ∃ x, x = T.getD j 0 := ⟨_, rfl⟩
              obtain ⟨r, hr⟩ : ∃ r, r = B.getD j false := ⟨_, rfl⟩
              rw [← hx] at e1 hsn
              rw [← hr] at e2 hsn
              have d4 : (j : Int) < (q : Int) := by omega
              have d5 : 0 ≤ (j : Int) := by omega
              clear hx hr
              rcases tv3 x with rfl | rfl | h2
              · obtain rfl : r = false := hsn.1 rfl
                clear hsn
                go_wp2_with fail
                go_round
                case rel => exact ⟨j + 1, by omega, by go_num⟩
                case measure => simp [intOf]; omega
              · obtain rfl : r = true := hsn.2 rfl
                clear hsn
                go_wp2_with fail
                go_round
                case rel => exact ⟨j + 1, by omega, by go_num⟩
                case measure => simp [intOf]; omega
              · obtain ⟨c6, c7⟩ := tri.ne0 h2
                clear hsn h2
                go_wp2_with fail
                go_round
                case rel => exact ⟨j + 1, by omega, by go_num⟩
                case measure => simp [intOf]; omega
            · obtain rfl : q = j := by omega
              clear hlt3 hj
              go_wp2_with fail
              go_at_call 7; refine (lives10_any C _).mono ?_; rintro e wb ⟨rfl, bb⟩
              have HBB := Lib.hid (HB7.out.trans (bb.mono HB7.out.size))
              clear bb
              go_wp2_with fail
              go_ret
              exact ⟨rfl, HBB.out⟩
    · have d1 : decide (80 < (n : Int)) = true := by simp; omega
      go_enter Try.func5, Try.ntmps5
      go_wp2_with fail
      go_at_call 6; refine (Small8_of HSM.out _ HV.out (by omega) (by omega)).mono ?_; rintro e w' ⟨rfl, rfl⟩
      go_wp2_with fail
      go_at_call 7; refine (lives10_any C _).mono ?_; rintro e wb ⟨rfl, bb⟩
      have HBB := Lib.hid bb
      clear bb
      go_wp2_with fail
      go_ret
      exact ⟨rfl, HBB.out⟩
  · have HSM := Lib.hid (small_no hsm)
    clear hsm
    go_enter Try.func5, Try.ntmps5
    go_wp2_with fail
    go_at_call 6; refine (Small8_of HSM.out _ HV.out (by omega) (by omega)).mono ?_; rintro e w' ⟨rfl, rfl⟩
    go_wp2_with fail
    go_at_call 7; refine (lives10_any C _).mono ?_; rintro e wb ⟨rfl, bb⟩
    have HBB := Lib.hid bb
    clear bb
    go_wp2_with fail
    go_ret
    exact ⟨rfl, HBB.out⟩
end Go.Proofs.Ytoacedadfjoneaa.aig
