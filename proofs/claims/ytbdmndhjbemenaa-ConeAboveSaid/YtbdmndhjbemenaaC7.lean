/- The walk of the statement that inputs that are not in the support play no part, over any cones. -/
import Derived.Test.YtbdmndhjbemenaaC6
import Derived.Test.YtbdmndhjbemenaaFnU
namespace Go.Proofs.Ytbdmndhjbemenaa.aig
open Go.RowKit
open Go.Proofs.Ytbdmndhjbemenaa.mem Go.Proofs.Ytbdmndhjbemenaa.agf
open Go.Proofs.Ytbdmndhjbemenaa.ints (Ints refInts_any refInts_same ints_of_owned wpList_clone)

/-- whether a number is in a list -/
def hasI (S : List Int) (x : Int) : Bool := decide (x ∈ S)
theorem hasI_yes {S : List Int} {x : Int} {k : Nat} (hk : k < S.length) (h : S.getD k 0 = x) : hasI S x = true := by
  unfold hasI
  rw [decide_eq_true_iff, ← h]
  have e : S.getD k 0 = S[k] := by simp [List.getD, hk]
  rw [e]; exact List.getElem_mem hk
theorem hasI_no {S : List Int} {x : Int} (h : ∀ k, k < S.length → S.getD k 0 ≠ x) : hasI S x = false := by
  unfold hasI
  rw [decide_eq_false_iff_not]
  intro hm
  obtain ⟨k, hk, e⟩ := List.getElem_of_mem hm
  exact h k hk (by simpa [List.getD, hk] using e)
theorem hasI_sel (f : Nat → Bool) {m i : Nat} (hi : i < m) : hasI (selTo f m) ((i : Int) + 1) = f i := by
  unfold hasI
  cases hf : f i with
  | true => rw [decide_eq_true_iff]; exact sel_mem.2 ⟨hi, hf⟩
  | false =>
    rw [decide_eq_false_iff_not]
    intro h
    have := (sel_mem.1 h).2
    rw [hf] at this; cases this
theorem refHas2_any (v : Value) (S : List Int) (x : Int) (w : World) (hv : Ints w v S) (hn : S.length ≤ 1000) :
    Calls Try.prog 24 #[v, .int .i64 x] w fun e w' => e = .returned (.bool (hasI S x)) ∧ w = w' := by
  have HV := Lib.hid hv
  obtain ⟨a, cap, rfl, l1, l2⟩ := Ints.form hv
  unfold maxLen at l2
  obtain ⟨n, hnn⟩ : ∃ n, n = S.length := ⟨_, rfl⟩
  rw [← hnn] at l1 hn HV ⊢
  have HN := Lib.hid hnn
  clear hv hnn
  go_enter Try.func24, Try.ntmps24
  go_wp2_with fail
  go_loop [5] (fun i => ∃ k : Nat, k ≤ n ∧ i = .int .i64 k ∧ Hid (∀ j, j < k → S.getD j 0 ≠ x)) (fun i => n - (intOf i).toNat)
  case atStart => exact ⟨0, Nat.zero_le _, rfl, Lib.hid (fun j hj => by omega)⟩
  case round =>
    obtain ⟨k, hk, rfl, HJ⟩ := hrel
    by_cases hlt : k < n
    · obtain ⟨b, off, rfl, -, e1⟩ := Ints.at_ HV.out hlt
      obtain ⟨z, hz⟩ : ∃ z, z = S.getD k 0 := ⟨_, rfl⟩
      rw [← hz] at e1
      have d1 : (k : Int) < (n : Int) := by omega
      have d2 : 0 ≤ (k : Int) := by omega
      by_cases hx : z = x
      · have c1 : (z == x) = true := by simpa using hx
        have HR : Hid (hasI S x = true) := Lib.hid (hasI_yes (k := k) (by rw [← HN.out]; exact hlt) (by rw [← hz]; exact hx))
        clear hx hz
        go_wp2_with fail
        go_ret
        exact ⟨mem.retB HR.out.symm, rfl⟩
      · have c1 : (z == x) = false := by simpa using hx
        have HJ2 : Hid (∀ j, j < k + 1 → S.getD j 0 ≠ x) := Lib.hid (fun j hj => by
          by_cases e : j = k
          · rw [e, ← hz]; exact hx
          · exact HJ.out j (by omega))
        clear hx hz
        go_wp2_with fail
        go_round
        case rel => exact ⟨k + 1, by omega, by go_num, HJ2⟩
        case measure => simp [intOf]; omega
    · obtain rfl : n = k := by omega
      have HR : Hid (hasI S x = false) := Lib.hid (hasI_no (fun j hj => HJ.out j (by rw [HN.out]; exact hj)))
      clear hlt hk
      go_wp2_with fail
      go_ret
      exact ⟨mem.retB HR.out.symm, rfl⟩
theorem refHas2_of {v : Value} {S : List Int} {x : Int} {b : Bool} (h : hasI S x = b) (w : World) (hv : Ints w v S) (hn : S.length ≤ 1000) :
    Calls Try.prog 24 #[v, .int .i64 x] w fun e w' => e = .returned (.bool b) ∧ w = w' := by
  have := refHas2_any v S x w hv hn; rw [h] at this; exact this
theorem KB.get {w : World} {a : Option Addr} {m cap k : Nat} {bs : List Bool} (_h : KB w (.slice a m cap) bs) (hm : m = bs.length) (hk : ¬ k < m) : bs.getD k false = false := by
  simp only [List.getD]
  rw [List.getElem?_eq_none (by omega)]; rfl
theorem newsB (w : World) (x : Value) (t : TypeId) : ∀ j u, ([x] : List Value)[j]? = some u → (w.alloc (.cells #[x] t)).cell? ((⟨w.heap.size, 0, none⟩ : Addr).add j) = some u := news1 w x t
theorem absN_in {ns : List (Int × Int)} {k : Nat} (hk : k < ns.length) : (ns.map absN)[k]? = some none ↔ (ns.getD k (0, 0)).1 < 0 := by
  rw [absN_at hk]
  unfold absN
  by_cases h : (ns.getD k (0, 0)).1 < 0
  · rw [if_pos h]; exact ⟨fun _ => h, fun _ => rfl⟩
  · rw [if_neg h]; exact ⟨(fun e => by cases e), fun e => absurd e h⟩
set_option maxRecDepth 100000 in
set_option maxHeartbeats 3200000 in
theorem means8_any (C : ConeOk) (v av bv : Value) (ns : List (Int × Int)) (l : Int) (as_ bs : List Bool) (W : World) (hv : KNds (fun _ => False) W v ns) (ha : KB W av as_) (hb : KB W bv bs) (hl : In64 l) :
    Calls Try.prog 6 #[v, .int .i64 l, av, bv] W fun e w' => e = .returned (.bool true) ∧ Below W.heap.size W w' := by
  obtain ⟨i0, hi, hz0, hz1, hz2⟩ := info_parts infoB
  have HV := Lib.hid hv
  have HA := Lib.hid ha
  have HB := Lib.hid hb
  unfold In64 at hl
  obtain ⟨hl0, hl9⟩ := hl
  obtain ⟨va, vcap, rfl, v1, v2⟩ := hv.form
  unfold maxLen at v2
  obtain ⟨aa, acap, rfl, a1, a2, -⟩ := ha
  unfold maxLen at a2
  obtain ⟨ba, bcap, rfl, b1, b2, -⟩ := hb
  unfold maxLen at b2
  obtain ⟨na, hna⟩ : ∃ na, na = as_.length := ⟨_, rfl⟩
  obtain ⟨nb, hnb⟩ : ∃ nb, nb = bs.length := ⟨_, rfl⟩
  rw [← hna] at a1 HA ⊢
  rw [← hnb] at b1 HB ⊢
  have HNA := Lib.hid hna
  have HNB := Lib.hid hnb
  clear hv hna hnb
  by_cases hsm : (ns.length : Int) ≤ 60 ∧ okB ns = true
  · have HSM := Lib.hid (small_yes hsm)
    have HG := Lib.hid (okB_good hsm.2)
    have HGN := Lib.hid (good_abs (okB_good hsm.2))
    have HNL : Hid (ns.length ≤ 1000) := Lib.hid (by omega)
    obtain ⟨m, hm⟩ : ∃ m, m = ns.length := ⟨_, rfl⟩
    have hm60 : m ≤ 60 := by omega
    have HM := Lib.hid hm
    rw [← hm] at v1 HV ⊢
    clear hsm hm
    by_cases c1 : l < 2
    · go_enter Try.func6, Try.ntmps6
      go_wp2_with fail
      go_at_call 7; refine (Small8_of HSM.out _ HV.out (by omega) (by omega)).mono ?_; rintro e w' ⟨rfl, rfl⟩
      go_wp2_with fail
      go_at_call 8; refine (lives8_any C _).mono ?_; rintro e wb ⟨rfl, bb⟩
      have HBB := Lib.hid bb
      clear bb
      go_wp2_with fail
      go_ret
      exact ⟨rfl, HBB.out⟩
    · have d1 : decide (l < 2) = false := decide_eq_false c1
      obtain ⟨q, hq⟩ : ∃ q : Nat, l = (q : Int) := ⟨l.toNat, by omega⟩
      subst hq
      by_cases c2 : (m : Int) < (q : Int) / 2
      · have d2 : decide ((m : Int) < (q : Int) / 2) = true := decide_eq_true c2
        clear c1
        go_enter Try.func6, Try.ntmps6
        go_wp2_with fail
        go_at_call 7; refine (Small8_of HSM.out _ HV.out (by omega) (by omega)).mono ?_; rintro e w' ⟨rfl, rfl⟩
        go_wp2_with fail
        go_at_call 8; refine (lives8_any C _).mono ?_; rintro e wb ⟨rfl, bb⟩
        have HBB := Lib.hid bb
        clear bb
        go_wp2_with fail
        go_ret
        exact ⟨rfl, HBB.out⟩
      · have d2 : decide ((m : Int) < (q : Int) / 2) = false := decide_eq_false c2
        have hq2 : q / 2 ≤ m := by omega
        have hq3 : q ≤ 200 := by omega
        have HZ : Hid (∀ z ∈ ([(q : Int)] : List Int), In64 z) := Lib.hid (fun z hz => by simp at hz; subst hz; unfold In64; omega)
        have HSF : Hid (∀ i, (ns.map absN)[i]? = some none → hangV (ns.map absN) (q / 2) (i + 1) = true → (ofB (ns.map absN) [(q : Int)] i && inB ns i) = true) := Lib.hid (fun i h1 h2 => by
          have hi := (List.getElem?_eq_some_iff.1 h1).1
          rw [List.length_map] at hi
          have e1 : ofB (ns.map absN) [(q : Int)] i = true := of_iff.2 ⟨(q : Int), by simp, by omega, by rw [List.length_map, ← HM.out]; omega, by rw [show ((q : Int) / 2).toNat = q / 2 by omega]; exact h2⟩
          rw [e1]
          unfold inB
          rw [decide_eq_true ((absN_in hi).1 h1)]; rfl)
        have HFH := Lib.hid (fun i (h : i < ns.length) => hasI_sel (fun i => ofB (ns.map absN) [(q : Int)] i && inB ns i) (m := ns.length) (i := i) h)
        have HFL := Lib.hid (sel_len (fun i => ofB (ns.map absN) [(q : Int)] i && inB ns i) ns.length)
        have HGL := Lib.hid (mix_means HGN.out as_ bs HSF.out)
        obtain ⟨N, hN⟩ : ∃ N, N = ns.map absN := ⟨_, rfl⟩
        have hNl : N.length = m := by rw [hN, List.length_map]; exact HM.out.symm
        have HNE := Lib.hid hN
        obtain ⟨f, hf⟩ : ∃ f : Nat → Bool, f = fun i => ofB (ns.map absN) [(q : Int)] i && inB ns i := ⟨_, rfl⟩
        have HFE := Lib.hid hf
        rw [← hf] at HFH HFL HGL
        rw [← hN] at HGL
        rw [hNl] at HGL
        have HNL2 := Lib.hid hNl
        have HCS : Hid (∀ u w, KNds (fun _ => False) w (.slice va m vcap) ns → Ints w u [(q : Int)] → Calls Try.prog 12 #[.slice va m vcap, u] w (TellsL (selTo f m) w)) := Lib.hid (fun u w hv hu => by
          have h := C.support (.slice va m vcap) u ns [(q : Int)] w hv HG.out HNL.out hu HZ.out (by simp)
          rw [← HM.out] at h
          rw [HFE.out]; exact h)
        rw [← HM.out] at HFH HFL
        clear c1 c2 hf hN hNl
        go_enter Try.func6, Try.ntmps6
        go_wp2_with fail
        go_at_call 7; refine (Small8_of HSM.out _ HV.out (by omega) (by omega)).mono ?_; rintro e w' ⟨rfl, rfl⟩
        go_wp2_with fail
        go_at_call 12; refine (HCS.out _ _ (HV.out.on (alloc_below _ _)) (ints_lit W _ _ [(q : Int)] rfl (by simp))).mono ?_; rintro e w1 ⟨sv, rfl, t1, b1⟩
        have HB1 := Lib.hid ((alloc_below W (.cells #[.int .i64 (q : Int)] 3)).trans (b1.mono (by simp)))
        have HT1 := Lib.hid t1
        clear t1 b1 HCS
        obtain ⟨S, hS⟩ : ∃ S, S = selTo f m := ⟨_, rfl⟩
        rw [← hS] at HT1 HFH HFL
        obtain ⟨sa, scap, rfl, s3, s4⟩ := Ints.form HT1.out
        unfold maxLen at s4
        obtain ⟨n, hnn⟩ : ∃ n, n = S.length := ⟨_, rfl⟩
        rw [← hnn] at HT1 s3 HFL ⊢
        have HNN := Lib.hid hnn
        have HW1 : Hid ((w1.alloc (.cells #[] 4)).ownsRow W.heap.size 4 1 (.slice (some ⟨w1.heap.size, 0, none⟩) 0 0) 0 [] ∧ Below W.heap.size W (w1.alloc (.cells #[] 4)) ∧ KInts (fun k => (Value.slice (some ⟨w1.heap.size, 0, none⟩) 0 0).ownBlock = some k) (w1.alloc (.cells #[] 4)) (.slice sa n scap) S) := Lib.hid ⟨World.ownsRow_made _ #[] 0 HB1.out.size (by unfold maxLen; omega) rfl, HB1.out.trans ((alloc_below _ _).mono HB1.out.size), by
          obtain ⟨a', c', e', g1, g2, g3⟩ := Ints.on HT1.out (alloc_below w1 (.cells #[] 4))
          obtain ⟨a'', c'', e'', -, -, g4⟩ := HT1.out
          refine ⟨a', c', e', g1, g2, fun hp => ?_⟩
          obtain ⟨b, off, h1, h2, h3⟩ := g3 hp
          obtain ⟨b', off', h1', h2', -⟩ := g4 hp
          refine ⟨b, off, h1, h2, fun hb => ?_, h3⟩
          have e1 : b = w1.heap.size := by simpa [Value.ownBlock] using hb.symm
          obtain ⟨r1, -, -⟩ := Value.slice.inj (e'.symm.trans e'')
          rw [h1, h1'] at r1
          have : b = b' := by simpa using congrArg Addr.block (Option.some.inj r1)
          omega⟩
        clear hS hnn HT1
        go_wp2_with fail
        go_loopw [10, 11, 12] (fun o kv i wr => ∃ (k : Nat) (L : List Bool) (mv : Value), k ≤ m ∧ i = .int .i64 k ∧ o = mv ∧ kv = .int .i64 (cntI N k : Int) ∧ L.length = cntI N k ∧ Hid (L = mixTo N f as_ bs k) ∧ Hid (wr.ownsRow W.heap.size 4 1 mv L.length (L.map Value.bool) ∧ Below W.heap.size W wr ∧ KInts (fun k => mv.ownBlock = some k) wr (.slice sa n scap) S)) (fun _ _ i _ => m - (intOf i).toNat)
        case atStart => exact ⟨0, [], _, Nat.zero_le _, rfl, rfl, rfl, rfl, Lib.hid rfl, HW1⟩
        case round =>
          clear HW1 HB1
          obtain ⟨k, L, mv, hk, rfl, hmv, rfl, hL, HLI, HW⟩ := hrel
          obtain rfl : mv = _ := hmv.symm
          obtain ⟨wo, rfl⟩ : ∃ wo : World, wo = wr := ⟨_, rfl⟩
          have hwz := HW.out.2.1.size
          have hck := cnt_le N k
          have HCY := Lib.hid (fun h => cnt_yes (N := N) (k := k) h)
          have HCN := Lib.hid (fun h => cnt_no (N := N) (k := k) h)
          have HST := Lib.hid (mix_step N f as_ bs k)
          obtain ⟨c, hc⟩ : ∃ c, c = cntI N k := ⟨_, rfl⟩
          rw [← hc] at hL hck HCY HCN HST ⊢
          have HLL := Lib.hid hL
          have hL6 : L.length ≤ 60 := by omega
          clear hc hL
          by_cases hlt : k < m
          · have hkn : k < ns.length := by rw [← HM.out]; exact hlt
            obtain ⟨vb, voff, hva, -, e1, -⟩ := (HV.out.on HW.out.2.1).at_ hlt
            subst hva
            have HIN : Hid (N[k]? = some none ↔ (ns.getD k (0, 0)).1 < 0) := Lib.hid (by rw [HNE.out]; exact absN_in hkn)
            have HFK := Lib.hid (HFH.out k hlt)
            obtain ⟨p, hp⟩ : ∃ p, p = (ns.getD k (0, 0)).1 := ⟨_, rfl⟩
            rw [← hp] at e1 HIN
            have d1 : (k : Int) < (m : Int) := by omega
            have d2 : 0 ≤ (k : Int) := by omega
            have hc60 : c ≤ 60 := by omega
            clear hp hkn
            by_cases g0 : p < 0
            · have c3 : decide (0 ≤ p) = false := by simp; omega
              have hin := HIN.out.2 g0
              have HKS := Lib.hid (HCY.out hin)
              have HSI : Hid (Ints wo (.slice sa n scap) S) := Lib.hid (by
                obtain ⟨x1, x2, x3, x4, x5, x6⟩ := HW.out.2.2
                exact ⟨x1, x2, x3, x4, x5, fun hp => by obtain ⟨y1, y2, y3, y4, -, y6⟩ := x6 hp; exact ⟨y1, y2, y3, y4, y6⟩⟩)
              clear g0
              cases hf : f k with
              | true =>
                have HF := Lib.hid hf
                have HHAS : Hid (hasI S ((k : Int) + 1) = true) := Lib.hid (by have hf' := hf; rw [HFE.out] at hf'; exact HFK.out.trans hf')
                clear hf
                go_wp2_with fail
                go_at_call 24; refine (refHas2_of HHAS.out _ HSI.out (by have := HFL.out; rw [← HNN.out]; omega)).mono ?_; rintro e w' ⟨rfl, rfl⟩
                by_cases hck : c < na
                · obtain ⟨kb, koff, hka, -, ek⟩ := (HA.out.on HW.out.2.1).at_ hck
                  subst hka
                  obtain ⟨x, hx⟩ : ∃ x, x = as_.getD c false := ⟨_, rfl⟩
                  rw [← hx] at ek
                  have d3 : (c : Int) < (na : Int) := by omega
                  have d4 : 0 ≤ (c : Int) := by omega
                  have HN : Hid (L ++ [x] = mixTo N f as_ bs (k + 1)) := Lib.hid (by rw [HST.out, if_pos hin, HF.out, HLI.out, hx]; rfl)
                  clear hx hck hin
                  have HROW := Lib.hid (own_on HW.out.1 ((Below.refl _ wo).alloc (Nat.le_refl _) (.cells #[.bool x] 4)))
                  go_wp2_with (at_builtin; refine wpList_append_lies _ rfl (.tmp 49) (.tmp 60) 33 rfl W.heap.size 4 i0 (.bool false) 1 1 Try.underlying33 hi hz0 hz1 hz2 rfl (by decide) mv L.length (L.map Value.bool) rfl HROW.out ⟨wo.heap.size, 0, none⟩ 1 1 [.bool x] rfl rfl (newsB _ _ _) (one_bool _) (by omega) (by unfold maxLen; omega) (by omega) (by simp; omega) _ rfl ?_)
                  intro t2 c2 w3 hown hgrow hat _
                  have HE := Lib.hid (brow_end HW.out.2.1 hwz HW.out.1 hown hgrow)
                  have HMV := Lib.hid (moved_append hgrow (hat.imp id (fun e => by omega)))
                  clear hown hgrow hat
                  have HEE : Hid (w3.ownsRow W.heap.size 4 1 (.slice (some ⟨t2, 0, none⟩) (L.length + 1) c2) (L ++ [x]).length ((L ++ [x]).map Value.bool) ∧ Below W.heap.size W w3 ∧ KInts (fun k => (Value.slice (some ⟨t2, 0, none⟩) (L.length + 1) c2).ownBlock = some k) w3 (.slice sa n scap) S) := Lib.hid ⟨HE.out.1, HE.out.2, by
                    have h := HW.out.2.2.move HMV.out
                    have e : (fun k => (Value.slice (some ⟨t2, 0, none⟩) (L.length + 1) c2).ownBlock = some k) = (fun k => t2 = k) := by funext k; simp [Value.ownBlock]
                    rw [e]; exact h⟩
                  go_wp2_with fail
                  go_roundw
                  case rel => exact ⟨k + 1, L ++ [x], .slice (some ⟨t2, 0, none⟩) (L.length + 1) c2, by omega, by go_num, rfl, by rw [HKS.out]; go_num, by rw [List.length_append, List.length_singleton, HLL.out, HKS.out], HN, HEE⟩
                  case measure => simp [intOf]; omega
                · have d3 : decide ((c : Int) < (na : Int)) = false := by simp; omega
                  have d3' : decide (c < na) = false := by simp; omega
                  have HN : Hid (L ++ [false] = mixTo N f as_ bs (k + 1)) := Lib.hid (by rw [HST.out, if_pos hin, HF.out, HLI.out]; rw [if_pos rfl, KB.get HA.out HNA.out hck])
                  clear hck hin
                  have HROW := Lib.hid (own_on HW.out.1 ((Below.refl _ wo).alloc (Nat.le_refl _) (.cells #[.bool false] 4)))
                  go_wp2_with (at_builtin; refine wpList_append_lies _ rfl (.tmp 49) (.tmp 60) 33 rfl W.heap.size 4 i0 (.bool false) 1 1 Try.underlying33 hi hz0 hz1 hz2 rfl (by decide) mv L.length (L.map Value.bool) rfl HROW.out ⟨wo.heap.size, 0, none⟩ 1 1 [.bool false] rfl rfl (newsB _ _ _) (one_bool _) (by omega) (by unfold maxLen; omega) (by omega) (by simp; omega) _ rfl ?_)
                  intro t2 c2 w3 hown hgrow hat _
                  have HE := Lib.hid (brow_end HW.out.2.1 hwz HW.out.1 hown hgrow)
                  have HMV := Lib.hid (moved_append hgrow (hat.imp id (fun e => by omega)))
                  clear hown hgrow hat
                  have HEE : Hid (w3.ownsRow W.heap.size 4 1 (.slice (some ⟨t2, 0, none⟩) (L.length + 1) c2) (L ++ [false]).length ((L ++ [false]).map Value.bool) ∧ Below W.heap.size W w3 ∧ KInts (fun k => (Value.slice (some ⟨t2, 0, none⟩) (L.length + 1) c2).ownBlock = some k) w3 (.slice sa n scap) S) := Lib.hid ⟨HE.out.1, HE.out.2, by
                    have h := HW.out.2.2.move HMV.out
                    have e : (fun k => (Value.slice (some ⟨t2, 0, none⟩) (L.length + 1) c2).ownBlock = some k) = (fun k => t2 = k) := by funext k; simp [Value.ownBlock]
                    rw [e]; exact h⟩
                  go_wp2_with fail
                  go_roundw
                  case rel => exact ⟨k + 1, L ++ [false], .slice (some ⟨t2, 0, none⟩) (L.length + 1) c2, by omega, by go_num, rfl, by rw [HKS.out]; go_num, by rw [List.length_append, List.length_singleton, HLL.out, HKS.out], HN, HEE⟩
                  case measure => simp [intOf]; omega
              | false =>
                have HF := Lib.hid hf
                have HHAS : Hid (hasI S ((k : Int) + 1) = false) := Lib.hid (by have hf' := hf; rw [HFE.out] at hf'; exact HFK.out.trans hf')
                clear hf
                go_wp2_with fail
                go_at_call 24; refine (refHas2_of HHAS.out _ HSI.out (by have := HFL.out; rw [← HNN.out]; omega)).mono ?_; rintro e w' ⟨rfl, rfl⟩
                by_cases hck : c < nb
                · obtain ⟨kb, koff, hka, -, ek⟩ := (HB.out.on HW.out.2.1).at_ hck
                  subst hka
                  obtain ⟨x, hx⟩ : ∃ x, x = bs.getD c false := ⟨_, rfl⟩
                  rw [← hx] at ek
                  have d3 : (c : Int) < (nb : Int) := by omega
                  have d4 : 0 ≤ (c : Int) := by omega
                  have HN : Hid (L ++ [x] = mixTo N f as_ bs (k + 1)) := Lib.hid (by rw [HST.out, if_pos hin, HF.out, HLI.out, hx]; rfl)
                  clear hx hck hin
                  have HROW := Lib.hid (own_on HW.out.1 ((Below.refl _ wo).alloc (Nat.le_refl _) (.cells #[.bool x] 4)))
                  go_wp2_with (at_builtin; refine wpList_append_lies _ rfl (.tmp 62) (.tmp 73) 33 rfl W.heap.size 4 i0 (.bool false) 1 1 Try.underlying33 hi hz0 hz1 hz2 rfl (by decide) mv L.length (L.map Value.bool) rfl HROW.out ⟨wo.heap.size, 0, none⟩ 1 1 [.bool x] rfl rfl (newsB _ _ _) (one_bool _) (by omega) (by unfold maxLen; omega) (by omega) (by simp; omega) _ rfl ?_)
                  intro t2 c2 w3 hown hgrow hat _
                  have HE := Lib.hid (brow_end HW.out.2.1 hwz HW.out.1 hown hgrow)
                  have HMV := Lib.hid (moved_append hgrow (hat.imp id (fun e => by omega)))
                  clear hown hgrow hat
                  have HEE : Hid (w3.ownsRow W.heap.size 4 1 (.slice (some ⟨t2, 0, none⟩) (L.length + 1) c2) (L ++ [x]).length ((L ++ [x]).map Value.bool) ∧ Below W.heap.size W w3 ∧ KInts (fun k => (Value.slice (some ⟨t2, 0, none⟩) (L.length + 1) c2).ownBlock = some k) w3 (.slice sa n scap) S) := Lib.hid ⟨HE.out.1, HE.out.2, by
                    have h := HW.out.2.2.move HMV.out
                    have e : (fun k => (Value.slice (some ⟨t2, 0, none⟩) (L.length + 1) c2).ownBlock = some k) = (fun k => t2 = k) := by funext k; simp [Value.ownBlock]
                    rw [e]; exact h⟩
                  go_wp2_with fail
                  go_roundw
                  case rel => exact ⟨k + 1, L ++ [x], .slice (some ⟨t2, 0, none⟩) (L.length + 1) c2, by omega, by go_num, rfl, by rw [HKS.out]; go_num, by rw [List.length_append, List.length_singleton, HLL.out, HKS.out], HN, HEE⟩
                  case measure => simp [intOf]; omega
                · have d3 : decide ((c : Int) < (nb : Int)) = false := by simp; omega
                  have d3' : decide (c < nb) = false := by simp; omega
                  have HN : Hid (L ++ [false] = mixTo N f as_ bs (k + 1)) := Lib.hid (by rw [HST.out, if_pos hin, HF.out, HLI.out]; rw [if_neg (by simp), KB.get HB.out HNB.out hck])
                  clear hck hin
                  have HROW := Lib.hid (own_on HW.out.1 ((Below.refl _ wo).alloc (Nat.le_refl _) (.cells #[.bool false] 4)))
                  go_wp2_with (at_builtin; refine wpList_append_lies _ rfl (.tmp 62) (.tmp 73) 33 rfl W.heap.size 4 i0 (.bool false) 1 1 Try.underlying33 hi hz0 hz1 hz2 rfl (by decide) mv L.length (L.map Value.bool) rfl HROW.out ⟨wo.heap.size, 0, none⟩ 1 1 [.bool false] rfl rfl (newsB _ _ _) (one_bool _) (by omega) (by unfold maxLen; omega) (by omega) (by simp; omega) _ rfl ?_)
                  intro t2 c2 w3 hown hgrow hat _
                  have HE := Lib.hid (brow_end HW.out.2.1 hwz HW.out.1 hown hgrow)
                  have HMV := Lib.hid (moved_append hgrow (hat.imp id (fun e => by omega)))
                  clear hown hgrow hat
                  have HEE : Hid (w3.ownsRow W.heap.size 4 1 (.slice (some ⟨t2, 0, none⟩) (L.length + 1) c2) (L ++ [false]).length ((L ++ [false]).map Value.bool) ∧ Below W.heap.size W w3 ∧ KInts (fun k => (Value.slice (some ⟨t2, 0, none⟩) (L.length + 1) c2).ownBlock = some k) w3 (.slice sa n scap) S) := Lib.hid ⟨HE.out.1, HE.out.2, by
                    have h := HW.out.2.2.move HMV.out
                    have e : (fun k => (Value.slice (some ⟨t2, 0, none⟩) (L.length + 1) c2).ownBlock = some k) = (fun k => t2 = k) := by funext k; simp [Value.ownBlock]
                    rw [e]; exact h⟩
                  go_wp2_with fail
                  go_roundw
                  case rel => exact ⟨k + 1, L ++ [false], .slice (some ⟨t2, 0, none⟩) (L.length + 1) c2, by omega, by go_num, rfl, by rw [HKS.out]; go_num, by rw [List.length_append, List.length_singleton, HLL.out, HKS.out], HN, HEE⟩
                  case measure => simp [intOf]; omega
            · have c3 : decide (0 ≤ p) = true := by simp; omega
              have hin : ¬ N[k]? = some none := fun h => g0 (HIN.out.1 h)
              have HKS := Lib.hid (HCN.out hin)
              have HN : Hid (L = mixTo N f as_ bs (k + 1)) := Lib.hid (by rw [HST.out, if_neg hin, List.append_nil, HLI.out])
              clear g0 hin
              go_wp2_with fail
              go_roundw
              case rel => exact ⟨k + 1, L, mv, by omega, by go_num, rfl, by rw [HKS.out], by rw [HLL.out, HKS.out], HN, HW⟩
              case measure => simp [intOf]; omega
          · obtain rfl : m = k := by omega
            have HLK : Hid (KB wo mv L) := Lib.hid (kb_row HW.out.1)
            have HVW := Lib.hid (HV.out.on HW.out.2.1)
            have HAW := Lib.hid (HA.out.on HW.out.2.1)
            have HBW := Lib.hid HW.out.2.1
            have HVA := Lib.hid (refValues_any (fun _ => False) _ (.slice aa na acap) ns as_ wo HVW.out HAW.out HG.out (by have := HNL.out; omega))
            rw [← HNE.out] at HVA
            clear hlt hk HST
            go_wp2_with fail
            go_at_call 22; refine HVA.out.mono ?_; rintro e w2 ⟨u2, rfl, r2, b2⟩
            have HK2 := Lib.hid (kb_row r2)
            have HB2 := Lib.hid (HBW.out.trans (b2.mono HBW.out.size))
            have HLK2 := Lib.hid (HLK.out.on b2)
            have hsl := st_len as_ N
            obtain ⟨x, hx⟩ : ∃ x, x = ev (st as_ N).1 q := ⟨_, rfl⟩
            have HOF := Lib.hid (refOf_of hx.symm w2 HK2.out (by rw [hsl, HNL2.out]; omega))
            clear r2 b2 HLK HVA
            go_wp2_with fail
            go_at_call 23; refine HOF.out.mono ?_; rintro e w' ⟨rfl, rfl⟩
            have HVB := Lib.hid (refValues_any (fun _ => False) _ mv ns L w2 (HV.out.on HB2.out) HLK2.out HG.out (by have := HNL.out; omega))
            rw [← HNE.out, HLI.out] at HVB
            have hsl2 := st_len (mixTo N f as_ bs m) N
            have hx2 : ev (st (mixTo N f as_ bs m) N).1 q = x := by
              rw [hx]; unfold ev; rw [HGL.out]
            have HX2 := Lib.hid hx2
            clear hx hx2 HOF
            go_wp2_with fail
            go_at_call 22; refine HVB.out.mono ?_; rintro e w3 ⟨u3, rfl, r3, b3⟩
            have HK3 := Lib.hid (kb_row r3)
            have HB3 := Lib.hid (HB2.out.trans (b3.mono HB2.out.size))
            clear r3 b3
            go_wp2_with fail
            go_at_call 23; refine (refOf_of HX2.out _ HK3.out (by rw [hsl2, HNL2.out]; omega)).mono ?_; rintro e w' ⟨rfl, rfl⟩
            go_wp2_with fail
            go_at_call 8; refine (lives8_any C _).mono ?_; rintro e wb ⟨rfl, bb⟩
            have HBB := Lib.hid (HB3.out.trans (bb.mono HB3.out.size))
            clear bb
            go_wp2_with fail
            go_ret
            exact ⟨rfl, HBB.out⟩
  · have HSM := Lib.hid (small_no hsm)
    clear hsm
    go_enter Try.func6, Try.ntmps6
    go_wp2_with fail
    go_at_call 7; refine (Small8_of HSM.out _ HV.out (by omega) (by omega)).mono ?_; rintro e w' ⟨rfl, rfl⟩
    go_wp2_with fail
    go_at_call 8; refine (lives8_any C _).mono ?_; rintro e wb ⟨rfl, bb⟩
    have HBB := Lib.hid bb
    clear bb
    go_wp2_with fail
    go_ret
    exact ⟨rfl, HBB.out⟩
end Go.Proofs.Ytbdmndhjbemenaa.aig
