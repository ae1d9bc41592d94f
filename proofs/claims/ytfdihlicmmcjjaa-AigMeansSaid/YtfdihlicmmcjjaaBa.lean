/- The walk of the statement on what literals mean, over any store. -/
import Derived.Test.YtfdihlicmmcjjaaAz
import Derived.Test.YtfdihlicmmcjjaaFnD
import Derived.Test.YtfdihlicmmcjjaaFnI
namespace Go.Proofs.Ytfdihlicmmcjjaa.aig
open Go.RowKit
open Go.Proofs.Ytfdihlicmmcjjaa.mem Go.Proofs.Ytfdihlicmmcjjaa.agf

theorem copy0_len (ns : List (Int × Int)) : (copyF [] (ns.map absN) []).2.length ≤ ns.length := by
  have := len_copy [] (ns.map absN) []
  simpa using this
theorem kints_nil (P : Nat → Prop) (w : World) : KInts P w (.slice none 0 0) [] := ⟨none, 0, rfl, Nat.le_refl _, by unfold maxLen; omega, fun h => by simp at h⟩
theorem has_in {m : Nat} {l : Int} (h : hasB m l = true) (hm : m ≤ 1000000) : In64 l := by
  rw [has_iff] at h; unfold In64; omega
theorem abs_same {N : Net} {ms : List (Int × Int)} (hl : ms.length = N.length) (hs : ∀ i, i < N.length → SameN (ms.getD i (0, 0)) ((N.map conc).getD i (0, 0))) : ms.map absN = N := by
  apply List.ext_getElem (by rw [List.length_map]; exact hl)
  intro i h1 h2
  rw [List.length_map] at h1
  have e1 : ms.getD i (0, 0) = ms[i] := by simp [List.getD, h1]
  have e2 : (N.map conc).getD i (0, 0) = conc N[i] := by simp [List.getD, h2]
  have := hs i h2
  rw [e1, e2] at this
  rw [List.getElem_map]
  cases hn : N[i] with
  | none =>
    rw [hn] at this
    have : ms[i].1 < 0 := by
      rcases this with ⟨h, -⟩ | h
      · exact h
      · rw [h]; decide
    unfold absN; rw [if_pos this]
  | some q =>
    obtain ⟨a, b⟩ := q
    rw [hn] at this
    have : ms[i] = ((a : Int), (b : Int)) := by
      rcases this with ⟨-, h⟩ | h
      · simp [conc] at h; omega
      · exact h
    rw [this]
    unfold absN
    rw [if_neg (by simp)]
    simp
theorem KInts.at_ {P : Nat → Prop} {w : World} {a : Option Addr} {m cap : Nat} {zs : List Int} (h : KInts P w (.slice a m cap) zs) {i : Nat} (hi : i < m) : ∃ b off, a = some ⟨b, off, none⟩ ∧ b < w.heap.size ∧ w.cell? ⟨b, off + i, none⟩ = some (.int .i64 (zs.getD i 0)) := by
  obtain ⟨a', cap', hv, h1, h2, h3⟩ := h
  obtain ⟨rfl, rfl, rfl⟩ := Value.slice.inj hv
  obtain ⟨b, off, ha, hlt, -, hc⟩ := h3 (by omega)
  exact ⟨b, off, ha, hlt, hc i hi⟩
theorem of_q {v : Value} {bs : List Bool} {l : Nat} {r : Bool} (hr : ev bs l = r) (w : World) (hv : KB w v bs) (hl : l / 2 < bs.length) :
    Calls Try.prog 29 #[v, .int .i64 (l : Int)] w fun e w' => e = .returned (.bool r) ∧ w' = w := (refOf_of hr w hv hl).mono fun _ _ ⟨h1, h2⟩ => ⟨h1, h2.symm⟩
/-- a literal of a net, and its value -/
theorem lit_nat {m : Nat} {d : Int} (h : hasB m d = true) : ∃ n : Nat, d = (n : Int) ∧ n ≤ 2 * m + 1 := by
  rw [has_iff] at h
  exact ⟨d.toNat, by omega, by omega⟩
/-- what is known when the net has been put there -/
structure MS (J : Proj) (W1 w : World) (g : Nat) (s : J.σ) (N : Net) (u : Value) (L : List Int) (base : Nat) : Prop where
  rep : J.rep W1.heap.size w g s N
  bel : Below W1.heap.size W1 w
  row : LRow base (J.own g s) w u L
theorem MS.on {J : Proj} {W1 w w' : World} {g : Nat} {s : J.σ} {N : Net} {u : Value} {L : List Int} {base : Nat} (p : MS J W1 w g s N u L base) (h : Below w.heap.size w w') : MS J W1 w' g s N u L base :=
  ⟨J.keep p.rep (only_below h) (fun _ _ e => e), p.bel.trans (h.mono p.bel.size), p.row.move (moved_of_below h)⟩
theorem MS.step {J : Proj} {W1 w w' : World} {g : Nat} {s s' : J.σ} {N M : Net} {u : Value} {L : List Int} {base : Nat} (p : MS J W1 w g s N u L base) (q : J.rep W1.heap.size w' g s' M) (m : Moved (J.own g s) (J.own g s') w w') : MS J W1 w' g s' M u L base :=
  ⟨q, p.bel.trans (m.below (fun k hk => (J.ge p.rep k hk).1) p.bel.size), p.row.move m⟩
set_option maxRecDepth 100000 in
set_option maxHeartbeats 12800000 in
theorem means_any (J : Proj) (v iv : Value) (ns : List (Int × Int)) (ins : List Bool) (l0 l1 l2 : Int) (W : World) (hv : KNds (New W) W v ns) (hi : KB W iv ins) :
    Calls Try.prog 5 #[v, iv, .agg #[.int .i64 l0, .int .i64 l1, .int .i64 l2]] W fun e w' => e = .returned (.bool true) ∧ Below W.heap.size W w' := by
  have HV := Lib.hid hv
  have HI := Lib.hid hi
  have B0 : Hid (Below W.heap.size W (W.alloc (.cells #[.int .i64 l0, .int .i64 l1, .int .i64 l2] 46))) := Lib.hid ((Below.refl _ W).alloc (Nat.le_refl _) _)
  have HV1 : Hid (KNds (fun _ => False) (W.alloc (.cells #[.int .i64 l0, .int .i64 l1, .int .i64 l2] 46)) v ns) := Lib.hid (knds_any hv B0.out)
  clear hv hi
  go_enter Try.func5, Try.ntmps5
  go_wp2_with fail
  obtain ⟨X, hX⟩ : ∃ X, X = W.heap.size := ⟨_, rfl⟩
  obtain ⟨W1, hW1⟩ : ∃ W1, W1 = W.alloc (.cells #[.int .i64 l0, .int .i64 l1, .int .i64 l2] 46) := ⟨_, rfl⟩
  have x0 : W1.cell? ⟨X, 0, none⟩ = some (.int .i64 l0) := by rw [hW1, hX]; simp
  have x1 : W1.cell? ⟨X, 1, none⟩ = some (.int .i64 l1) := by rw [hW1, hX]; simp
  have x2 : W1.cell? ⟨X, 2, none⟩ = some (.int .i64 l2) := by rw [hW1, hX]; simp
  have hXl : X < W1.heap.size := by rw [hW1, hX]; simp
  have hXW : W.heap.size ≤ X := by omega
  rw [← hW1] at B0 HV1
  rw [← hW1, ← hX]
  clear hW1 hX
  have HX := Lib.hid (And.intro x0 (And.intro x1 x2))
  clear x0 x1 x2
  go_at_call 18; refine (Small_any _ _ ns _ HV1.out).mono ?_; rintro e w2 ⟨rfl, rfl⟩
  by_cases g2 : (decide (ns.length ≤ 60) && okB ns) = true
  · rw [g2]
    have HN6 : Hid (ns.length ≤ 60 ∧ GoodN ns) := Lib.hid (by
      rw [Bool.and_eq_true] at g2
      exact ⟨by simpa using g2.1, okB_good g2.2⟩)
    clear g2
    go_wp2_with fail
    go_at_call 17; refine (J.new W1.heap.size W1 (Nat.le_refl _)).mono ?_; rintro e w3 ⟨g, s, rfl, p1, o1, b1⟩
    have HN3 := Lib.hid (And.intro p1 (And.intro o1 b1))
    clear p1 o1 b1
    go_wp2_with fail
    go_at_call 24; refine (J.copy W1.heap.size g s [] v (.slice none 0 0) ns [] _ HN3.out.1 (HV.out.arg (B0.out.trans (HN3.out.2.2.mono B0.out.size)) (fun k hk => Nat.le_trans B0.out.size (J.ge HN3.out.1 k hk).1)) HN6.out.2 (kints_nil _ _) (by simp) (by have := HN6.out.1; omega) (by simp)).mono ?_; rintro e w4 ⟨s4, u, rfl, p4, m4, r4⟩
    obtain ⟨N0, hN0⟩ : ∃ N0, N0 = (copyF [] (ns.map absN) []).2 := ⟨_, rfl⟩
    obtain ⟨L, hL⟩ : ∃ L, L = (copyF [] (ns.map absN) []).1 := ⟨_, rfl⟩
    have hlen0 := copy0_len ns
    have hlenL := (copy_put ins (good_abs HN6.out.2)).len
    rw [← hN0] at p4 hlen0
    rw [← hL, List.length_map] at hlenL
    rw [← hL] at r4
    have HM := Lib.hid (MS.mk p4 (HN3.out.2.2.trans (m4.below (fun k hk => (J.ge HN3.out.1 k hk).1) HN3.out.2.2.size)) r4)
    obtain ⟨ua, uc, hu, hu1, hu2, -⟩ := kints_row (P := fun _ => False) r4.row (fun _ e => e.elim)
    obtain ⟨va, vc, hvf, hv1, hv2⟩ := HV.out.form
    obtain rfl : u = _ := hu
    obtain rfl : v = _ := hvf
    obtain ⟨q, hq⟩ : ∃ q, q = ns.length := ⟨_, rfl⟩
    obtain ⟨lL, hlL⟩ : ∃ lL, lL = L.length := ⟨_, rfl⟩
    obtain ⟨nn, hnn⟩ : ∃ nn, nn = N0.length := ⟨_, rfl⟩
    have hq60 : q ≤ 60 := by rw [hq]; exact HN6.out.1
    rw [← hq] at HV HV1 hv1 hlen0 hlenL ⊢
    rw [← hlL] at HM hu1 hlenL ⊢
    rw [← hnn] at hlen0
    have HEQ := Lib.hid (And.intro hN0 (And.intro hL (And.intro hq (And.intro hlL hnn))))
    clear p4 m4 r4 hN0 hL hq hlL
    have t0 : ((lL : Int) != (q : Int) + 1) = false := by simp; omega
    have HLQ := Lib.hid hlenL
    unfold maxLen at hu2 hv2
    clear hlenL
    go_wp2_with fail
    go_at_call 22; refine (J.len _ g s4 _ _ HM.out.rep).mono ?_; rintro e w5 ⟨rfl, rfl⟩
    rw [← hnn]
    have HX4 := Lib.hid (And.intro ((HM.out.bel.cell (p := ⟨X, 0, none⟩) hXl).trans HX.out.1) (And.intro ((HM.out.bel.cell (p := ⟨X, 1, none⟩) hXl).trans HX.out.2.1) ((HM.out.bel.cell (p := ⟨X, 2, none⟩) hXl).trans HX.out.2.2)))
    obtain ⟨x0, x1, x2⟩ := HX4.out
    clear hnn
    go_upto_region 10 with fail
    go_quiet (fail)
    go_wp2_with fail
    obtain ⟨A, hA⟩ : ∃ A, A = (bits BinOp.and IntKind.i64 l0 1023).tmod (2 * (nn : Int) + 2) := ⟨_, rfl⟩
    obtain ⟨B, hB⟩ : ∃ B, B = (bits BinOp.and IntKind.i64 l1 1023).tmod (2 * (nn : Int) + 2) := ⟨_, rfl⟩
    obtain ⟨C, hC⟩ : ∃ C, C = (bits BinOp.and IntKind.i64 l2 1023).tmod (2 * (nn : Int) + 2) := ⟨_, rfl⟩
    have hnn : nn = N0.length := HEQ.out.2.2.2.2
    have hA2 : hasB N0.length A = true := by rw [hA, has_iff, ← hnn]; exact many_has (low10 l0).1
    have hB2 : hasB N0.length B = true := by rw [hB, has_iff, ← hnn]; exact many_has (low10 l1).1
    have hC2 : hasB N0.length C = true := by rw [hC, has_iff, ← hnn]; exact many_has (low10 l2).1
    have hme : Means ins (ns.map absN) (muxF (xorF (orF N0 A B).2 A B).2 A B C).2 L A B C (orF N0 A B).1 (xorF (orF N0 A B).2 A B).1 (muxF (xorF (orF N0 A B).2 A B).2 A B C).1 := by
      rw [HEQ.out.1, HEQ.out.2.1]
      rw [HEQ.out.1] at hA2 hB2 hC2
      exact means ins (good_abs HN6.out.2) hA2 hB2 hC2
    have k1 := (or_len N0 A B).1
    have k2 := (mux_len (orF N0 A B).2 A (nt B) B).1
    have k3 := (mux_len (xorF (orF N0 A B).2 A B).2 A B C).1
    obtain ⟨N1, hN1⟩ : ∃ N1, N1 = (orF N0 A B).2 := ⟨_, rfl⟩
    obtain ⟨x, hx⟩ : ∃ x, x = (orF N0 A B).1 := ⟨_, rfl⟩
    rw [← hN1] at k1 k2 k3 hme
    rw [← hx] at hme
    obtain ⟨N2, hN2⟩ : ∃ N2, N2 = (xorF N1 A B).2 := ⟨_, rfl⟩
    obtain ⟨y, hy⟩ : ∃ y, y = (xorF N1 A B).1 := ⟨_, rfl⟩
    have k2b : N2.length ≤ N1.length + 3 := by rw [hN2]; exact k2
    rw [← hN2] at k3 hme
    rw [← hy] at hme
    obtain ⟨M, hM⟩ : ∃ M, M = (muxF N2 A B C).2 := ⟨_, rfl⟩
    obtain ⟨z, hz⟩ : ∃ z, z = (muxF N2 A B C).1 := ⟨_, rfl⟩
    rw [← hM] at k3 hme
    rw [← hz] at hme
    have hlenM : M.length ≤ 70 := by omega
    have HLN : Hid (N0.length ≤ 60 ∧ N1.length ≤ 70 ∧ N2.length ≤ 70 ∧ M.length ≤ 70) := Lib.hid (by omega)
    have HIN : Hid (In64 A ∧ In64 B ∧ In64 C) := Lib.hid ⟨has_in hA2 (by omega), has_in hB2 (by omega), has_in hC2 (by omega)⟩
    have HOE := Lib.hid (And.intro hx hN1)
    have HXE := Lib.hid (And.intro hy hN2)
    have HME := Lib.hid (And.intro hz hM)
    have HMS := Lib.hid hme
    have HM6 := Lib.hid (HM.out.on (below_drewN (Below.refl _ _) nq))
    obtain ⟨w6, hw6⟩ : ∃ w6, w6 = w4.drewN nq := ⟨_, rfl⟩
    rw [← hw6] at HM6
    rw [← hA, ← hB, ← hC, ← hw6]
    clear hA hB hC hA2 hB2 hC2 hme k1 k2 k3 k2b hN1 hx hN2 hy hM hz hw6 hlenM HM x0 x1 x2 hnn
    go_at_call 25; refine (J.or_ W1.heap.size g s4 N0 A B _ HM6.out.rep (by have := HLN.out.1; omega) HIN.out.1 HIN.out.2.1).mono ?_; rintro e w7 ⟨s7, he, p7, m7⟩
    rw [← HOE.out.1] at he
    rw [← HOE.out.2] at p7
    subst he
    have HM7 := Lib.hid (HM6.out.step p7 m7)
    clear p7 m7 HM6
    go_wp2_with fail
    go_at_call 26; refine (J.xor W1.heap.size g s7 N1 A B _ HM7.out.rep (by have := HLN.out.2.1; omega) HIN.out.1 HIN.out.2.1).mono ?_; rintro e w8 ⟨s8, he, p8, m8⟩
    rw [← HXE.out.1] at he
    rw [← HXE.out.2] at p8
    subst he
    have HM8 := Lib.hid (HM7.out.step p8 m8)
    clear p8 m8 HM7
    go_wp2_with fail
    go_at_call 27; refine (J.mux W1.heap.size g s8 N2 A B C _ HM8.out.rep (by have := HLN.out.2.2.1; omega) HIN.out.1 HIN.out.2.1 HIN.out.2.2).mono ?_; rintro e w9 ⟨s9, he, p9, m9⟩
    rw [← HME.out.1] at he
    rw [← HME.out.2] at p9
    subst he
    have HM9 := Lib.hid (HM8.out.step p9 m9)
    clear p9 m9 HM8
    go_wp2_with fail
    go_at_call 23; refine (J.net W1.heap.size g s9 M _ HM9.out.rep (by have := HLN.out.2.2.2; omega)).mono ?_; rintro e w10 ⟨um, ms, rfl, kn, kl, ks, b10⟩
    have HM10 := Lib.hid (HM9.out.on b10)
    have HG := Lib.hid (And.intro (same_chk kl ks HMS.out.good) (And.intro (abs_same kl ks) (okB_good (same_okB kl ks HMS.out.good))))
    have HKM := Lib.hid (knds_any (P := fun k => k < w9.heap.size) kn (Below.refl _ _))
    obtain ⟨uma, umc, hum, hum1, hum2⟩ := kn.form
    obtain rfl : um = _ := hum
    obtain ⟨mm, hmm⟩ : ∃ mm, mm = M.length := ⟨_, rfl⟩
    have hmm70 : mm ≤ 80 := by have := HLN.out.2.2.2; omega
    rw [kl, ← hmm] at HKM hum1 ⊢
    have hms : ms.length = mm := by rw [hmm]; exact kl
    have HMM := Lib.hid (And.intro hmm hms)
    clear kn kl ks b10 HM9 hmm hms
    go_wp2_with fail
    go_at_call 9; refine (refCheck_any _ _ ms _ HKM.out (by rw [HMM.out.2]; omega)).mono ?_; rintro e w11 ⟨he, rfl⟩
    rw [HG.out.1] at he
    subst he
    have bx := has_iff.1 HMS.out.hx.1
    have bY := has_iff.1 HMS.out.hx.2.1
    have bz := has_iff.1 HMS.out.hx.2.2
    rw [← HMM.out.1] at bx bY bz
    have cx1 : decide (x < 0) = false := by simp; omega
    have cy1 : decide (y < 0) = false := by simp; omega
    have cz1 : decide (z < 0) = false := by simp; omega
    have cx2 : decide (2 * (mm : Int) + 1 < x) = false := by simp; omega
    have cy2 : decide (2 * (mm : Int) + 1 < y) = false := by simp; omega
    have cz2 : decide (2 * (mm : Int) + 1 < z) = false := by simp; omega
    clear bx bY bz
    go_wp2_with fail
    go_at_call 28; refine (refValues_any _ _ iv ns ins _ (knds_any HV1.out HM10.out.bel) (HI.out.on (B0.out.trans (HM10.out.bel.mono B0.out.size))) HN6.out.2 (by have := HN6.out.1; omega)).mono ?_; rintro e w12 ⟨wv, rfl, row12, b12⟩
    have HW := Lib.hid (kb_row row12)
    have HM12 := Lib.hid (HM10.out.on b12)
    have HKM2 := Lib.hid (knds_any HKM.out b12)
    clear row12 b12 HM10 HKM cx1 cx2 cy1 cy2 cz1 cz2
    go_wp2_with fail
    go_at_call 28; refine (refValues_any _ _ iv ms ins _ HKM2.out (HI.out.on (B0.out.trans (HM12.out.bel.mono B0.out.size))) HG.out.2.2 (by rw [HMM.out.2]; omega)).mono ?_; rintro e w13 ⟨nv, rfl, row13, b13⟩
    have hnv := kb_row row13
    rw [HG.out.2.1] at hnv
    have HNV := Lib.hid hnv
    have HM13 := Lib.hid (HM12.out.on b13)
    have hwv := HW.out.on b13
    have hpl : (st ins (ns.map absN)).1.length = lL := by rw [st_len, List.length_map, HLQ.out, HEQ.out.2.2.1]
    obtain ⟨wa, wc, hwf, hw1, hw2, -⟩ := hwv
    rw [hpl] at hwf hw1
    obtain rfl : wv = _ := hwf
    have HWV : Hid (KB w13 (.slice wa lL wc) (st ins (ns.map absN)).1) := Lib.hid (HW.out.on b13)
    have HKU : Hid (KInts (fun _ => False) w13 (.slice ua lL uc) L) := Lib.hid (kints_row (P := fun _ => False) HM13.out.row.row (fun _ e => e.elim))
    have HNL : Hid ((st ins M).1.length = mm + 1) := Lib.hid (by rw [st_len, ← HMM.out.1])
    unfold maxLen at hw2
    clear row13 b13 hnv hpl HM12 HW
    go_wp2_with fail
    go_loopw [19] (fun i wr => ∃ k : Nat, k ≤ lL ∧ i = .int .i64 k ∧ Hid (∃ d, wr = w13.drewN d)) (fun i _ => lL - (intOf i).toNat)
    case atStart => exact ⟨0, Nat.zero_le _, rfl, Lib.hid ⟨0, rfl⟩⟩
    case round =>
      obtain ⟨k, hk, rfl, HD⟩ := hrel
      obtain ⟨wo, rfl⟩ : ∃ wo : World, wo = wr := ⟨_, rfl⟩
      have HBO : Hid (Below w13.heap.size w13 wo) := Lib.hid (by obtain ⟨d, e⟩ := HD.out; rw [e]; exact below_drewN (Below.refl _ _) d)
      by_cases hlt : k < lL
      · obtain ⟨b, off, rfl, hbl, e1⟩ := (kints_any HKU.out HBO.out).at_ hlt
        obtain ⟨b2, off2, rfl, hbl2, e2⟩ := (HWV.out.on HBO.out).at_ hlt
        obtain ⟨hd1, hd2⟩ := HMS.out.has k (by have := HLQ.out; have := HEQ.out.2.2.1; rw [List.length_map]; omega)
        obtain ⟨dn, hdn, hdb⟩ := lit_nat hd1
        rw [hdn] at e1 hd2
        obtain ⟨r, hr⟩ : ∃ r, r = (st ins (ns.map absN)).1.getD k false := ⟨_, rfl⟩
        rw [← hr] at e2 hd2
        have HEV : Hid (ev (st ins M).1 dn = r) := Lib.hid (by unfold evI at hd2; simpa using hd2)
        have HDL : Hid (dn / 2 < (st ins M).1.length) := Lib.hid (by rw [HNL.out, HMM.out.1]; omega)
        have HNO := Lib.hid (HNV.out.on HBO.out)
        rw [← HMM.out.1] at hdb
        have c1 : decide ((dn : Int) < 0) = false := by simp
        have c2 : decide (2 * (mm : Int) + 1 < (dn : Int)) = false := by simp; omega
        clear hd1 hd2 hdn hdb hr
        go_upto_region 19 with fail
        go_quiet ((first | (go_at_call 29; exact Calls.quiet_of_same (of_q HEV.out _ (HNO.out.on (below_drewN (Below.refl _ _) _)) HDL.out)) | fail))
        go_wp2_with fail
        go_roundw
        case rel => exact ⟨k + 1, by omega, by go_num, Lib.hid (by obtain ⟨q, e⟩ := HD.out; exact ⟨q + nq, by rw [e, World.drewN_drewN]⟩)⟩
        case measure => simp [intOf]; omega
      · obtain rfl : lL = k := by omega
        clear hlt hk
        have HNO := Lib.hid (HNV.out.on HBO.out)
        have HMO := Lib.hid (HM13.out.on HBO.out)
        obtain ⟨an, rfl, han⟩ := lit_nat HMS.out.ha.1
        obtain ⟨bn, rfl, hbn⟩ := lit_nat HMS.out.ha.2.1
        obtain ⟨cn, rfl, hcn⟩ := lit_nat HMS.out.ha.2.2
        obtain ⟨xn, rfl, hxn⟩ := lit_nat HMS.out.hx.1
        obtain ⟨yn, rfl, hyn⟩ := lit_nat HMS.out.hx.2.1
        obtain ⟨zn, rfl, hzn⟩ := lit_nat HMS.out.hx.2.2
        obtain ⟨pa, hpa⟩ : ∃ pa, pa = ev (st ins M).1 an := ⟨_, rfl⟩
        obtain ⟨pb, hpb⟩ : ∃ pb, pb = ev (st ins M).1 bn := ⟨_, rfl⟩
        obtain ⟨pc, hpc⟩ : ∃ pc, pc = ev (st ins M).1 cn := ⟨_, rfl⟩
        have vx : ev (st ins M).1 xn = (pa || pb) := by rw [hpa, hpb]; exact HMS.out.vx
        have vy : ev (st ins M).1 yn = (pa != pb) := by rw [hpa, hpb]; exact HMS.out.vy
        have vz : ev (st ins M).1 zn = (pa && pb || !pa && pc) := by rw [hpa, hpb, hpc]; exact HMS.out.vz
        obtain ⟨px, hpx⟩ : ∃ px, px = (pa || pb) := ⟨_, rfl⟩
        obtain ⟨py, hpy⟩ : ∃ py, py = (pa != pb) := ⟨_, rfl⟩
        obtain ⟨pz, hpz⟩ : ∃ pz, pz = (pa && pb || !pa && pc) := ⟨_, rfl⟩
        rw [← hpx] at vx
        rw [← hpy] at vy
        rw [← hpz] at vz
        have hnl := HNL.out
        have hmm := HMM.out.1
        have Da : Hid (an / 2 < (st ins M).1.length) := Lib.hid (by rw [hnl]; omega)
        have Db : Hid (bn / 2 < (st ins M).1.length) := Lib.hid (by rw [hnl]; omega)
        have Dc : Hid (cn / 2 < (st ins M).1.length) := Lib.hid (by rw [hnl]; omega)
        have Dx : Hid (xn / 2 < (st ins M).1.length) := Lib.hid (by rw [hnl]; omega)
        have Dy : Hid (yn / 2 < (st ins M).1.length) := Lib.hid (by rw [hnl]; omega)
        have Dz : Hid (zn / 2 < (st ins M).1.length) := Lib.hid (by rw [hnl]; omega)
        have Va := Lib.hid hpa.symm
        have Vb := Lib.hid hpb.symm
        have Vc := Lib.hid hpc.symm
        have Vx := Lib.hid vx
        have Vy := Lib.hid vy
        have Vz := Lib.hid vz
        clear hpa hpb hpc vx vy vz han hbn hcn hxn hyn hzn hnl hmm
        cases pa <;> cases pb <;> cases pc <;> simp at hpx hpy hpz <;> subst hpx hpy hpz
        all_goals
          go_wp2_with fail
          go_at_call 29; refine (refOf_of Va.out _ HNO.out Da.out).mono ?_; rintro e wz ⟨rfl, rfl⟩
          go_wp2_with fail
          go_at_call 29; refine (refOf_of Vb.out _ HNO.out Db.out).mono ?_; rintro e wz ⟨rfl, rfl⟩
          go_wp2_with fail
          go_at_call 29; refine (refOf_of Vc.out _ HNO.out Dc.out).mono ?_; rintro e wz ⟨rfl, rfl⟩
          go_wp2_with fail
          go_at_call 29; refine (refOf_of Vx.out _ HNO.out Dx.out).mono ?_; rintro e wz ⟨rfl, rfl⟩
          go_wp2_with fail
          go_at_call 29; refine (refOf_of Vy.out _ HNO.out Dy.out).mono ?_; rintro e wz ⟨rfl, rfl⟩
          go_wp2_with fail
          go_at_call 29; refine (refOf_of Vz.out _ HNO.out Dz.out).mono ?_; rintro e wz ⟨rfl, rfl⟩
          go_wp2_with fail
          go_at_call 16; refine (lives_any J _).mono ?_; rintro e wz ⟨rfl, bz⟩
          have HE := Lib.hid (B0.out.trans ((HMO.out.on bz).bel.mono B0.out.size))
          clear bz
          go_wp2_with fail
          go_ret
          exact ⟨rfl, HE.out⟩
  · rw [Bool.not_eq_true] at g2
    rw [g2]
    clear g2
    go_wp2_with fail
    go_at_call 16; refine (lives_any J _).mono ?_; rintro e w3 ⟨rfl, b3⟩
    have HE := Lib.hid (B0.out.trans (b3.mono B0.out.size))
    clear b3
    go_wp2_with fail
    go_ret
    exact ⟨rfl, HE.out⟩
end Go.Proofs.Ytfdihlicmmcjjaa.aig
