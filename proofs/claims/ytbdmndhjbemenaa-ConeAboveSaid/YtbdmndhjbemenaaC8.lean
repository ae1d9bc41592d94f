/- The walk of the statement on what is cut, over any cones. -/
import Derived.Test.YtbdmndhjbemenaaC7
import Derived.Test.YtbdmndhjbemenaaAa
namespace Go.Proofs.Ytbdmndhjbemenaa.aig
open Go.RowKit
open Go.Proofs.Ytbdmndhjbemenaa.mem Go.Proofs.Ytbdmndhjbemenaa.agf
open Go.Proofs.Ytbdmndhjbemenaa.ints (Ints refInts_any refInts_same ints_of_owned wpList_clone)

theorem knds_of_row {w : World} {E : Nat} {v : Value} {ns : List (Int × Int)} (h : w.ownsRow E 37 2 v ns.length (nodeCells ns)) : KNds (fun _ => False) w v ns := by
  rcases h.2 with ⟨rfl, h0⟩ | ⟨g, cap, cur, rfl, hb, hg, hn, hm, hs, ht⟩
  · exact ⟨none, 0, by rw [h0], by omega, by unfold maxLen; omega, fun hp => by omega⟩
  · refine ⟨some ⟨g, 0, none⟩, cap, rfl, hn, hm, fun hp => ⟨g, 0, rfl, (Array.getElem?_eq_some_iff.1 hg).1, fun e => e, fun i hi => ?_⟩⟩
    obtain ⟨k1, k2⟩ := nodeCells_at ns i hi
    exact ⟨by rw [Nat.zero_add, h.cellAt _ (by omega), k1], by rw [Nat.zero_add, h.cellAt _ (by omega), k2]⟩
theorem abs_conc (M : Net) : (M.map conc).map absN = M := by
  rw [List.map_map]
  conv => rhs; rw [← List.map_id M]
  refine List.map_congr_left fun x _ => ?_
  cases x with
  | none => rfl
  | some g =>
    obtain ⟨a, b⟩ := g
    show absN ((a : Int), (b : Int)) = _
    unfold absN
    rw [if_neg (by simp)]
    simp
theorem good_conc {M : Net} (h : agf.Good M) : GoodN (M.map conc) := by
  intro i hi h0
  rw [List.length_map] at hi
  have e : (M.map conc).getD i (0, 0) = conc M[i] := by simp [List.getD, hi]
  rw [e] at h0 ⊢
  cases hx : M[i] with
  | none => rw [hx] at h0; exact absurd h0 (by decide)
  | some g =>
    obtain ⟨a, b⟩ := g
    have := h i a b (by rw [List.getElem?_eq_getElem hi, hx])
    show ((a : Int)) ≤ _ ∧ (0 : Int) ≤ (b : Int) ∧ (b : Int) ≤ _
    omega
theorem of_q8 {v : Value} {bs : List Bool} {l : Nat} {r : Bool} (hr : ev bs l = r) (w : World) (hv : KB w v bs) (hl : l / 2 < bs.length) :
    Calls Try.prog 23 #[v, .int .i64 (l : Int)] w fun e w' => e = .returned (.bool r) ∧ w' = w := (refOf_of hr w hv hl).mono fun _ _ ⟨h1, h2⟩ => ⟨h1, h2.symm⟩
/-- truths in a slice that lies in none of the blocks of P -/
def PB (P : Nat → Prop) (w : World) (v : Value) (bs : List Bool) : Prop :=
  ∃ (a : Option Addr) (cap : Nat), v = .slice a bs.length cap ∧ bs.length ≤ cap ∧ cap ≤ maxLen ∧
    (0 < bs.length → ∃ b off, a = some ⟨b, off, none⟩ ∧ b < w.heap.size ∧ ¬ P b ∧ ∀ i, i < bs.length → w.cell? ⟨b, off + i, none⟩ = some (.bool (bs.getD i false)))
theorem PB.kb {P : Nat → Prop} {w : World} {v : Value} {bs : List Bool} (h : PB P w v bs) : KB w v bs := by
  obtain ⟨a, cap, hv, h1, h2, h3⟩ := h
  exact ⟨a, cap, hv, h1, h2, fun hp => by obtain ⟨b, off, ha, hlt, -, hc⟩ := h3 hp; exact ⟨b, off, ha, hlt, hc⟩⟩
theorem PB.move {P P' : Nat → Prop} {w w' : World} {v : Value} {bs : List Bool} (h : PB P w v bs) (m : Moved P P' w w') : PB P' w' v bs := by
  obtain ⟨a, cap, hv, h1, h2, h3⟩ := h
  refine ⟨a, cap, hv, h1, h2, fun hp => ?_⟩
  obtain ⟨b, off, ha, hlt, hn, hc⟩ := h3 hp
  refine ⟨b, off, ha, Nat.lt_of_lt_of_le hlt m.only.size, fun hb => ?_, fun i hi => ?_⟩
  · rcases m.own b hb with e | e
    · exact hn e
    · omega
  · exact (World.cell?_of_block (w := w) (a := ⟨b, off + i, none⟩) (m.only.block b hlt hn)).trans (hc i hi)
theorem KB.form8 {w : World} {v : Value} {bs : List Bool} (h : KB w v bs) : ∃ a cap, v = .slice a bs.length cap ∧ bs.length ≤ cap ∧ cap ≤ maxLen := by
  obtain ⟨a, cap, hv, h1, h2, -⟩ := h; exact ⟨a, cap, hv, h1, h2⟩
/-- the inputs that are kept so far, and what lies beside them -/
structure Few (W wr : World) (mv : Value) (F : List Bool) (wv : Value) (was : List Bool) (nv : Value) (ns : List (Int × Int)) (lv : Value) (L : List Int) : Prop where
  row : wr.ownsRow W.heap.size 4 1 mv F.length (F.map Value.bool)
  b : Below W.heap.size W wr
  pw : PB (fun k => mv.ownBlock = some k) wr wv was
  pn : KNds (fun k => mv.ownBlock = some k) wr nv ns
  at_ : KInts (fun k => mv.ownBlock = some k) wr lv L
section
variable {W wr : World} {mv wv nv lv : Value} {F ws : List Bool} {ns : List (Int × Int)} {L : List Int}
theorem Few.step {t c2 : Nat} {x : Bool} {w3 : World} (h : Few W wr mv F wv ws nv ns lv L) (hr : w3.ownsRow W.heap.size 4 1 (.slice (some ⟨t, 0, none⟩) (F.length + 1) c2) (F ++ [x]).length ((F ++ [x]).map Value.bool)) (hb : Below W.heap.size W w3)
    (m : Moved (fun k => mv.ownBlock = some k) (fun k => t = k) wr w3) : Few W w3 (.slice (some ⟨t, 0, none⟩) (F.length + 1) c2) (F ++ [x]) wv ws nv ns lv L := by
  have e : (fun k => (Value.slice (some ⟨t, 0, none⟩) (F.length + 1) c2).ownBlock = some k) = (fun k => t = k) := by funext k; simp [Value.ownBlock]
  exact ⟨hr, hb, by rw [e]; exact h.pw.move m, by rw [e]; exact h.pn.move m, by rw [e]; exact h.at_.move m⟩
theorem Few.few (h : Few W wr mv F wv ws nv ns lv L) : KB wr mv F := kb_row h.row
theorem Few.was (h : Few W wr mv F wv ws nv ns lv L) : KB wr wv ws := h.pw.kb
theorem Few.net (h : Few W wr mv F wv ws nv ns lv L) : KNds (fun _ => False) wr nv ns := by
  obtain ⟨a, cap, hv, h1, h2, h3⟩ := h.pn
  exact ⟨a, cap, hv, h1, h2, fun hp => by obtain ⟨b, off, ha, hlt, -, hc⟩ := h3 hp; exact ⟨b, off, ha, hlt, fun e => e, hc⟩⟩
theorem Few.ats (h : Few W wr mv F wv ws nv ns lv L) : Ints wr lv L := by
  obtain ⟨a, cap, hv, h1, h2, h3⟩ := h.at_
  exact ⟨a, cap, hv, h1, h2, fun hp => by obtain ⟨b, off, ha, hlt, -, hc⟩ := h3 hp; exact ⟨b, off, ha, hlt, hc⟩⟩
theorem few_start (hb : Below W.heap.size W wr) (h1 : KB wr wv ws) (h2 : KNds (fun _ => False) wr nv ns) (h3 : Ints wr lv L) :
    Few W (wr.alloc (.cells #[] 4)) (.slice (some ⟨wr.heap.size, 0, none⟩) 0 0) [] wv ws nv ns lv L := by
  have hbl := alloc_below wr (.cells #[] 4)
  have hP : ∀ k, (Value.slice (some ⟨wr.heap.size, 0, none⟩) 0 0).ownBlock = some k → k = wr.heap.size := fun k hk => by simpa [Value.ownBlock] using hk.symm
  refine ⟨World.ownsRow_made _ #[] 0 hb.size (by unfold maxLen; omega) rfl, hb.trans (hbl.mono hb.size), ?_, ?_, ?_⟩
  · obtain ⟨a, cap, hv, g1, g2, g3⟩ := h1
    refine ⟨a, cap, hv, g1, g2, fun hp => ?_⟩
    obtain ⟨b, off, ha, hlt, hc⟩ := g3 hp
    exact ⟨b, off, ha, Nat.lt_of_lt_of_le hlt hbl.size, fun e => by have := hP b e; omega, fun i hi => (hbl.cell (p := ⟨b, off + i, none⟩) hlt).trans (hc i hi)⟩
  · obtain ⟨a, cap, hv, g1, g2, g3⟩ := h2
    refine ⟨a, cap, hv, g1, g2, fun hp => ?_⟩
    obtain ⟨b, off, ha, hlt, -, hc⟩ := g3 hp
    exact ⟨b, off, ha, Nat.lt_of_lt_of_le hlt hbl.size, fun e => by have := hP b e; omega, fun i hi => ⟨(hbl.cell (p := ⟨b, off + i * 2, none⟩) hlt).trans (hc i hi).1, (hbl.cell (p := ⟨b, off + i * 2 + 1, none⟩) hlt).trans (hc i hi).2⟩⟩
  · obtain ⟨a, cap, hv, g1, g2, g3⟩ := h3
    refine ⟨a, cap, hv, g1, g2, fun hp => ?_⟩
    obtain ⟨b, off, ha, hlt, hc⟩ := g3 hp
    exact ⟨b, off, ha, Nat.lt_of_lt_of_le hlt hbl.size, fun e => by have := hP b e; omega, fun i hi => (hbl.cell (p := ⟨b, off + i, none⟩) hlt).trans (hc i hi)⟩
end
set_option maxRecDepth 100000 in
set_option maxHeartbeats 6400000 in
theorem cuts8_any (C : ConeOk) (v iv : Value) (ns : List (Int × Int)) (a : Option Addr) (n cap : Nat) (zs : List Int) (ins : List Bool) (W : World) (hv : KNds (fun _ => False) W v ns) (hu : Ints W (.slice a n cap) zs) (hnil : a = none → n = 0 ∧ cap = 0) (h64 : ∀ z ∈ zs, In64 z) (hi : KB W iv ins) :
    Calls Try.prog 5 #[v, .slice a n cap, iv] W fun e w' => e = .returned (.bool true) ∧ Below W.heap.size W w' := by
  have hgd : Try.prog.eqGuardType Try.prog.depth 37 = false := by kernel_rfl
  have hne := node_neq
  obtain ⟨i0, hib, hz0, hz1, hz2⟩ := info_parts infoB
  have HV := Lib.hid hv
  have HU := Lib.hid hu
  have H64 := Lib.hid h64
  have HNIL := Lib.hid hnil
  have HI := Lib.hid hi
  obtain ⟨va, vcap, rfl, v1, v2⟩ := hv.form
  unfold maxLen at v2
  obtain ⟨ia, icap, rfl, i1, i2, -⟩ := hi
  unfold maxLen at i2
  obtain ⟨ni, hni⟩ : ∃ ni, ni = ins.length := ⟨_, rfl⟩
  rw [← hni] at i1 HI ⊢
  have HNI := Lib.hid hni
  obtain ⟨a', cap', hs, u1, u2, -⟩ := hu
  obtain ⟨rfl, hn, rfl⟩ := Value.slice.inj hs
  unfold maxLen at u2
  rw [← hn] at u1
  have HN := Lib.hid hn
  clear hv h64 hnil hn hs hni
  by_cases hsm : (ns.length : Int) ≤ 60 ∧ okB ns = true
  · have HSM := Lib.hid (small_yes hsm)
    have HG := Lib.hid (okB_good hsm.2)
    have HGN := Lib.hid (good_abs (okB_good hsm.2))
    have HNL : Hid (ns.length ≤ 1000) := Lib.hid (by omega)
    obtain ⟨m, hm⟩ : ∃ m, m = ns.length := ⟨_, rfl⟩
    have hm60 : m ≤ 60 := by omega
    have HM := Lib.hid hm
    rw [← hm] at v1 HV ⊢
    clear hsm hm
    by_cases hl : n ≤ 40
    · have d0 : decide (40 < (n : Int)) = false := by simp; omega
      have HZL : Hid (zs.length ≤ 1000) := Lib.hid (by have := HN.out; omega)
      have HDN := Lib.hid (fun i x y (e : (ns.map absN)[i]? = some (some (x, y))) (h : ofB (ns.map absN) zs i = true) => of_down HGN.out h e)
      have HOK := Lib.hid (cut_ok HGN.out HDN.out ns.length (by rw [List.length_map]; exact Nat.le_refl _))
      have HME := Lib.hid (fun fw hfw => (cut_means HGN.out HDN.out ins fw hfw ns.length (by rw [List.length_map]; exact Nat.le_refl _)).2)
      have HCA := Lib.hid (fun u w hv hu => C.cut (.slice va m vcap) u ns zs w hv HG.out HNL.out hu H64.out HZL.out)
      have HCB := Lib.hid (fun u w hv hu => refCut_any (.slice va m vcap) u ns zs w hv HG.out HNL.out hu H64.out HZL.out)
      have HVA := Lib.hid (fun w hv hi => refValues_any (fun _ => False) (.slice va m vcap) (.slice ia ni icap) ns ins w hv hi HG.out (by have := HNL.out; omega))
      rw [← HM.out] at HOK HCA HCB
      obtain ⟨N, hN⟩ : ∃ N, N = ns.map absN := ⟨_, rfl⟩
      have hNl : N.length = m := by rw [hN, List.length_map]; exact HM.out.symm
      rw [← hN] at HOK HME HCA HCB HVA
      rw [hNl, ← HM.out] at HME
      have HNE := Lib.hid hN
      have HNL2 := Lib.hid hNl
      obtain ⟨f, hf⟩ : ∃ f, f = ofB N zs := ⟨_, rfl⟩
      rw [← hf] at HOK HME HCA HCB
      obtain ⟨M, hMM⟩ : ∃ M, M = (cutTo N f m).1 := ⟨_, rfl⟩
      obtain ⟨L, hLL⟩ : ∃ L, L = (cutTo N f m).2 := ⟨_, rfl⟩
      have HCT : Hid (cutTo N f m = (M, L)) := Lib.hid (by rw [hMM, hLL])
      rw [HCT.out] at HCB
      rw [← hMM, ← hLL] at HOK HME HCA
      have HGM := Lib.hid (good_conc HOK.out.good)
      have hMm := HOK.out.few
      have hLl := HOK.out.len
      clear hN hNl hf hMM hLL
      go_enter Try.func5, Try.ntmps5
      go_wp2_with fail
      go_at_call 7; refine (Small8_of HSM.out _ HV.out (by omega) (by omega)).mono ?_; rintro e w' ⟨rfl, rfl⟩
      go_wp2_with (at_builtin; refine wpList_clone _ rfl _ _ rfl rfl a n cap zs rfl HU.out HNIL.out (by omega) ?_)
      intro ov w1 o1 b1
      have HO1 := Lib.hid o1
      have HB1 := Lib.hid b1
      clear o1 b1
      go_wp2_with fail
      go_at_call 20; refine (HCA.out _ _ (HV.out.on HB1.out) HO1.out).mono ?_; rintro e w2 ⟨nv, av, rfl, k2, t2, b2⟩
      have HB2 := Lib.hid (HB1.out.trans (b2.mono HB1.out.size))
      have HK2 := Lib.hid k2
      have HT2 := Lib.hid t2
      clear k2 t2 b2 HO1
      go_wp2_with fail
      go_at_call 21; refine (HCB.out _ _ (HV.out.on HB2.out) (Ints.on HU.out HB2.out)).mono ?_; rintro e w3 ⟨rv, tv, rfl, r3, t3, b3⟩
      have HB3 := Lib.hid (HB2.out.trans (b3.mono HB2.out.size))
      have HK3 := Lib.hid (HK2.out.on b3)
      have HT3 := Lib.hid (Ints.on HT2.out b3)
      have HR3 : Hid (KNds (fun _ => False) w3 rv (M.map conc)) := Lib.hid (knds_of_row (by rw [List.length_map]; exact r3))
      have HU3 := Lib.hid (ints_of_owned t3)
      clear r3 t3 b3 HK2 HT2 HCA HCB
      obtain ⟨na, ncap, rfl, n1, n2⟩ := HK3.out.form
      unfold maxLen at n2
      obtain ⟨ra, rcap, rfl, q1, q2⟩ := HR3.out.form
      unfold maxLen at q2
      obtain ⟨mm, hmm⟩ : ∃ mm, mm = (M.map conc).length := ⟨_, rfl⟩
      have hmM : mm = M.length := by rw [hmm, List.length_map]
      rw [← hmm] at n1 q1 HK3 HR3 ⊢
      have HMM := Lib.hid hmm
      have HMM2 := Lib.hid hmM
      have hm2 : mm ≤ 60 := by omega
      have t0 : ((mm : Int) != (mm : Int)) = false := by simp
      clear hmm hmM
      go_wp2_with fail
      go_at_call 9; refine (refInts_same rfl HT3.out HU3.out).mono ?_; rintro e w4 ⟨rfl, b4⟩
      have HB4 := Lib.hid (HB3.out.trans (b4.mono HB3.out.size))
      have HK4 := Lib.hid (HK3.out.on b4)
      have HR4 := Lib.hid (HR3.out.on b4)
      have HT4 := Lib.hid (Ints.on HT3.out b4)
      clear b4 HK3 HR3 HT3 HU3
      go_wp2_with fail
      go_loopw [11] (fun i wr => ∃ k : Nat, k ≤ mm ∧ i = .int .i64 k ∧ Hid (∃ q, wr = w4.drewN q)) (fun i _ => mm - (intOf i).toNat)
      case atStart => exact ⟨0, Nat.zero_le _, rfl, Lib.hid ⟨0, rfl⟩⟩
      case round =>
        obtain ⟨k, hk, rfl, HQ⟩ := hrel
        obtain ⟨wo, rfl⟩ : ∃ wo : World, wo = wr := ⟨_, rfl⟩
        have hb : Below w4.heap.size w4 wo := by obtain ⟨q, e⟩ := HQ.out; rw [e]; exact below_drewN (Below.refl _ _) q
        by_cases hlt : k < mm
        · obtain ⟨b, off, hna, -, e1, e2⟩ := (HK4.out.on hb).at_ hlt
          obtain ⟨b', off', hra, -, e3, e4⟩ := (HR4.out.on hb).at_ hlt
          subst hna
          subst hra
          obtain ⟨p, hp⟩ : ∃ p, p = (M.map conc).getD k (0, 0) := ⟨_, rfl⟩
          rw [← hp] at e1 e2 e3 e4
          obtain ⟨p1, p2⟩ := p
          simp only at e1 e2 e3 e4
          have d1 : (k : Int) < (mm : Int) := by omega
          have d2 : 0 ≤ (k : Int) := by omega
          have c3 : (p1 == p1 && p2 == p2) = true := by simp
          clear hp hb
          go_upto_region 10 with fail
          go_quiet (fail)
          go_wp2_with fail
          go_roundw
          case rel => exact ⟨k + 1, by omega, by go_num, Lib.hid (by obtain ⟨q, e⟩ := HQ.out; exact ⟨q + nq, by rw [e, World.drewN_drewN]⟩)⟩
          case measure => simp [intOf]; omega
        · obtain rfl : mm = k := by omega
          have HB5 := Lib.hid (HB4.out.trans (hb.mono HB4.out.size))
          have HK5 := Lib.hid (HK4.out.on hb)
          have HT5 := Lib.hid (Ints.on HT4.out hb)
          clear hlt hk hb HK4 HR4 HT4 HB4 hgd hne t0
          obtain ⟨la, lcap, hlv, l5, l6⟩ := Ints.form HT5.out
          subst hlv
          unfold maxLen at l6
          obtain ⟨q0, hq0⟩ : ∃ q0, q0 = L.length := ⟨_, rfl⟩
          rw [← hq0] at HT5 l5 ⊢
          have HQ0 : Hid (q0 = L.length) := Lib.hid hq0
          have hq1 : q0 = m + 1 := by rw [hq0]; exact hLl
          have HQ1 := Lib.hid hq1
          clear hq0 hLl
          go_wp2_with fail
          go_at_call 22; refine (HVA.out _ (HV.out.on HB5.out) (HI.out.on HB5.out)).mono ?_; rintro e w5 ⟨wvv, rfl, r5, b5⟩
          have HB6 := Lib.hid (HB5.out.trans (b5.mono HB5.out.size))
          have HF0 : Hid (Few W (w5.alloc (.cells #[] 4)) (.slice (some ⟨w5.heap.size, 0, none⟩) 0 0) [] wvv (st ins N).1 (.slice na mm ncap) (M.map conc) (.slice la q0 lcap) L) := Lib.hid
            (few_start HB6.out (kb_row r5) (HK5.out.on b5) (Ints.on HT5.out b5))
          clear r5 b5 HK5 HT5 HB5 HVA
          go_wp2_with fail
          go_loopw [13, 14, 15] (fun o kv i wr => ∃ (k : Nat) (F : List Bool) (mv : Value), k ≤ m ∧ i = .int .i64 k ∧ o = mv ∧ kv = .int .i64 (cntI N k : Int) ∧ F.length ≤ k ∧ Hid (F = fewTo N f ins k) ∧ Hid (Few W wr mv F wvv (st ins N).1 (.slice na mm ncap) (M.map conc) (.slice la q0 lcap) L)) (fun _ _ i _ => m - (intOf i).toNat)
          case atStart => exact ⟨0, [], _, Nat.zero_le _, rfl, rfl, rfl, Nat.le_refl _, Lib.hid rfl, HF0⟩
          case round =>
            clear HF0 HB6
            obtain ⟨k, F, mv, hk, rfl, hmv, rfl, hF, HLI, HW⟩ := hrel
            obtain rfl : mv = _ := hmv.symm
            obtain ⟨wi, rfl⟩ : ∃ wi : World, wi = wr := ⟨_, rfl⟩
            have hwz := HW.out.b.size
            have hck := cnt_le N k
            have HCY := Lib.hid (fun h => cnt_yes (N := N) (k := k) h)
            have HCN := Lib.hid (fun h => cnt_no (N := N) (k := k) h)
            have HST := Lib.hid (few_step N f ins k)
            obtain ⟨c, hc⟩ : ∃ c, c = cntI N k := ⟨_, rfl⟩
            rw [← hc] at hck HCY HCN HST ⊢
            have hF6 : F.length ≤ 60 := by omega
            have hc60 : c ≤ 60 := by omega
            clear hc
            by_cases hlt : k < m
            · have hkn : k < ns.length := by rw [← HM.out]; exact hlt
              obtain ⟨vb, voff, hva, -, e1, -⟩ := (HV.out.on HW.out.b).at_ hlt
              subst hva
              have HIN : Hid (N[k]? = some none ↔ (ns.getD k (0, 0)).1 < 0) := Lib.hid (by rw [HNE.out]; exact absN_in hkn)
              obtain ⟨p, hp⟩ : ∃ p, p = (ns.getD k (0, 0)).1 := ⟨_, rfl⟩
              rw [← hp] at e1 HIN
              have d1 : (k : Int) < (m : Int) := by omega
              have d2 : 0 ≤ (k : Int) := by omega
              have d5 : (k : Int) + 1 < (q0 : Int) := by omega
              clear hp hkn
              by_cases g0 : p < 0
              · have c3 : decide (p < 0) = true := by simp; omega
                have hin := HIN.out.2 g0
                have HKS := Lib.hid (HCY.out hin)
                obtain ⟨lb, loff, hla, -, e2⟩ := HW.out.at_.cell_ (i := k + 1) (by omega)
                subst hla
                have hyes := HOK.out.yes (k + 1) (by omega) (by omega)
                have hno := HOK.out.no (k + 1) (by omega) (by omega)
                rw [show k + 1 - 1 = k by omega] at hyes hno
                obtain ⟨z, hz⟩ : ∃ z, z = L.getD (k + 1) 0 := ⟨_, rfl⟩
                rw [← hz] at e2 hyes hno
                clear g0 hz
                cases hf : f k with
                | true =>
                  have hz2 := hyes hf
                  have c4 : decide (0 ≤ z) = true := by simp; omega
                  clear hyes hno hz2
                  by_cases hcn : c < ni
                  · obtain ⟨kb, koff, hka, -, ek⟩ := (HI.out.on HW.out.b).at_ hcn
                    subst hka
                    obtain ⟨x, hx⟩ : ∃ x, x = ins.getD c false := ⟨_, rfl⟩
                    rw [← hx] at ek
                    have d3 : (c : Int) < (ni : Int) := by omega
                    have d4 : 0 ≤ (c : Int) := by omega
                    have HN' : Hid (F ++ [x] = fewTo N f ins (k + 1)) := Lib.hid (by rw [HST.out, if_pos ⟨hin, hf⟩, HLI.out, hx])
                    clear hx hcn hin hf
                    have HROW := Lib.hid (own_on HW.out.row ((Below.refl _ wi).alloc (Nat.le_refl _) (.cells #[.bool x] 4)))
                    go_wp2_with (at_builtin; refine wpList_append_lies _ rfl (.tmp 89) (.tmp 100) 33 rfl W.heap.size 4 i0 (.bool false) 1 1 Try.underlying33 hib hz0 hz1 hz2 rfl (by decide) mv F.length (F.map Value.bool) rfl HROW.out ⟨wi.heap.size, 0, none⟩ 1 1 [.bool x] rfl rfl (newsB _ _ _) (one_bool _) (by omega) (by unfold maxLen; omega) (by omega) (by simp; omega) _ rfl ?_)
                    intro t2 c2 w9 hown hgrow hat _
                    have HE := Lib.hid (brow_end HW.out.b hwz HW.out.row hown hgrow)
                    have HMV := Lib.hid (moved_append hgrow (hat.imp id (fun e => by omega)))
                    clear hown hgrow hat
                    have HEE : Hid (Few W w9 (.slice (some ⟨t2, 0, none⟩) (F.length + 1) c2) (F ++ [x]) wvv (st ins N).1 (.slice na mm ncap) (M.map conc) (.slice (some ⟨lb, loff, none⟩) q0 lcap) L) := Lib.hid (HW.out.step HE.out.1 HE.out.2 HMV.out)
                    go_wp2_with fail
                    go_roundw
                    case rel => exact ⟨k + 1, F ++ [x], .slice (some ⟨t2, 0, none⟩) (F.length + 1) c2, by omega, by go_num, rfl, by rw [HKS.out]; go_num, by rw [List.length_append, List.length_singleton]; omega, HN', HEE⟩
                    case measure => simp [intOf]; omega
                  · have d3 : decide ((c : Int) < (ni : Int)) = false := by simp; omega
                    have d3' : decide (c < ni) = false := by simp; omega
                    have HN' : Hid (F ++ [false] = fewTo N f ins (k + 1)) := Lib.hid (by rw [HST.out, if_pos ⟨hin, hf⟩, HLI.out, KB.get HI.out HNI.out hcn])
                    clear hcn hin hf
                    have HROW := Lib.hid (own_on HW.out.row ((Below.refl _ wi).alloc (Nat.le_refl _) (.cells #[.bool false] 4)))
                    go_wp2_with (at_builtin; refine wpList_append_lies _ rfl (.tmp 89) (.tmp 100) 33 rfl W.heap.size 4 i0 (.bool false) 1 1 Try.underlying33 hib hz0 hz1 hz2 rfl (by decide) mv F.length (F.map Value.bool) rfl HROW.out ⟨wi.heap.size, 0, none⟩ 1 1 [.bool false] rfl rfl (newsB _ _ _) (one_bool _) (by omega) (by unfold maxLen; omega) (by omega) (by simp; omega) _ rfl ?_)
                    intro t2 c2 w9 hown hgrow hat _
                    have HE := Lib.hid (brow_end HW.out.b hwz HW.out.row hown hgrow)
                    have HMV := Lib.hid (moved_append hgrow (hat.imp id (fun e => by omega)))
                    clear hown hgrow hat
                    have HEE : Hid (Few W w9 (.slice (some ⟨t2, 0, none⟩) (F.length + 1) c2) (F ++ [false]) wvv (st ins N).1 (.slice na mm ncap) (M.map conc) (.slice (some ⟨lb, loff, none⟩) q0 lcap) L) := Lib.hid (HW.out.step HE.out.1 HE.out.2 HMV.out)
                    go_wp2_with fail
                    go_roundw
                    case rel => exact ⟨k + 1, F ++ [false], .slice (some ⟨t2, 0, none⟩) (F.length + 1) c2, by omega, by go_num, rfl, by rw [HKS.out]; go_num, by rw [List.length_append, List.length_singleton]; omega, HN', HEE⟩
                    case measure => simp [intOf]; omega
                | false =>
                  have hz2 := hno hf
                  have c4 : decide (0 ≤ z) = false := by simp; omega
                  have HN' : Hid (F = fewTo N f ins (k + 1)) := Lib.hid (by rw [HST.out, if_neg (fun h => by rw [hf] at h; cases h.2), List.append_nil, HLI.out])
                  clear hyes hno hz2 hin hf
                  go_wp2_with fail
                  go_roundw
                  case rel => exact ⟨k + 1, F, mv, by omega, by go_num, rfl, by rw [HKS.out]; go_num, by omega, HN', HW⟩
                  case measure => simp [intOf]; omega
              · have c3 : decide (p < 0) = false := by simp; omega
                have hin : ¬ N[k]? = some none := fun h => g0 (HIN.out.1 h)
                have HKS := Lib.hid (HCN.out hin)
                have HN' : Hid (F = fewTo N f ins (k + 1)) := Lib.hid (by rw [HST.out, if_neg (fun h => hin h.1), List.append_nil, HLI.out])
                clear g0 hin
                go_wp2_with fail
                go_roundw
                case rel => exact ⟨k + 1, F, mv, by omega, by go_num, rfl, by rw [HKS.out], by omega, HN', HW⟩
                case measure => simp [intOf]; omega
            · obtain rfl : m = k := by omega
              have HMF := Lib.hid (HME.out F ⟨[], by rw [HLI.out, List.append_nil]⟩)
              have HVB := Lib.hid (refValues_any (fun _ => False) _ mv (M.map conc) F wi HW.out.net HW.out.few HGM.out (by rw [← HMM.out]; omega))
              rw [abs_conc] at HVB
              have HB7 := Lib.hid HW.out.b
              have HWV := Lib.hid HW.out.was
              have HLV : Hid (Ints wi (.slice la q0 lcap) L) := Lib.hid HW.out.ats
              clear hlt hk HST HCY HCN
              go_wp2_with fail
              go_at_call 22; refine HVB.out.mono ?_; rintro e w6 ⟨u6, rfl, r6, b6⟩
              have HB8 := Lib.hid (HB7.out.trans (b6.mono HB7.out.size))
              have HK8 := Lib.hid (kb_row r6)
              have HW8 := Lib.hid (HWV.out.on b6)
              have HL8 := Lib.hid (Ints.on HLV.out b6)
              have HSM2 := Lib.hid (st_len F M)
              have HSN2 := Lib.hid (st_len ins N)
              clear r6 b6 HW HVB HB7 HWV HLV
              obtain ⟨ua, ucap, hwv, -, w2⟩ := HW8.out.form8
              subst hwv
              unfold maxLen at w2
              obtain ⟨wn, hwn⟩ : ∃ wn, wn = (st ins N).1.length := ⟨_, rfl⟩
              rw [← hwn] at HW8 ⊢
              have hwn2 : wn = m + 1 := by rw [hwn, HSN2.out, HNL2.out]
              clear hwn
              go_wp2_with fail
              go_loopw [17] (fun i wr => ∃ k : Nat, k ≤ q0 ∧ i = .int .i64 k ∧ Hid (∃ q, wr = w6.drewN q)) (fun i _ => q0 - (intOf i).toNat)
              case atStart => exact ⟨0, Nat.zero_le _, rfl, Lib.hid ⟨0, rfl⟩⟩
              case round =>
                obtain ⟨k, hk, rfl, HQ⟩ := hrel
                obtain ⟨wo, rfl⟩ : ∃ wo : World, wo = wr := ⟨_, rfl⟩
                have hb : Below w6.heap.size w6 wo := by obtain ⟨q, e⟩ := HQ.out; rw [e]; exact below_drewN (Below.refl _ _) q
                by_cases hlt : k < q0
                · obtain ⟨lb, loff, hla, -, e1⟩ := Ints.at_ (Ints.on HL8.out hb) hlt
                  subst hla
                  obtain ⟨ub, uoff, hua, -, e2⟩ := (HW8.out.on hb).at_ (i := k) (by omega)
                  subst hua
                  have HKO := Lib.hid (HK8.out.on hb)
                  have hyes := HOK.out.yes k
                  have hno := HOK.out.no k
                  have hzr := HOK.out.zero
                  have hval := HMF.out k (by omega)
                  have d1 : (k : Int) < (q0 : Int) := by omega
                  have d2 : 0 ≤ (k : Int) := by omega
                  have d3 : (k : Int) < (wn : Int) := by omega
                  by_cases hfk : k = 0 ∨ f (k - 1) = true
                  · have hv := hval hfk
                    have hz : 0 ≤ L.getD k 0 ∧ L.getD k 0 ≤ 2 * (M.length : Int) + 1 := by
                      by_cases e : k = 0
                      · rw [e, hzr]; omega
                      · have := hyes (by omega) (by omega) (hfk.resolve_left e); omega
                    obtain ⟨y, hy⟩ : ∃ y : Nat, L.getD k 0 = (y : Int) := ⟨(L.getD k 0).toNat, by omega⟩
                    rw [hy] at e1 hv hz
                    obtain ⟨x, hx⟩ : ∃ x, x = (st ins N).1.getD k false := ⟨_, rfl⟩
                    rw [← hx] at e2 hv
                    have HEV : Hid (ev (st F M).1 y = x) := Lib.hid (by unfold evI at hv; simpa using hv)
                    have HDL : Hid (y / 2 < (st F M).1.length) := Lib.hid (by rw [HSM2.out]; omega)
                    have c4 : decide (0 ≤ (y : Int)) = true := by simp
                    clear hyes hno hzr hval hv hz hy hx hfk hb
                    go_upto_region 24 with fail
                    go_quiet ((first | (go_at_call 23; exact Calls.quiet_of_same (of_q8 HEV.out _ (HKO.out.on (below_drewN (Below.refl _ _) _)) HDL.out)) | fail))
                    go_wp2_with fail
                    go_roundw
                    case rel => exact ⟨k + 1, by omega, by go_num, Lib.hid (by obtain ⟨q, e⟩ := HQ.out; exact ⟨q + nq, by rw [e, World.drewN_drewN]⟩)⟩
                    case measure => simp [intOf]; omega
                  · have hz : L.getD k 0 = -1 := hno (by omega) (by omega) (by
                      cases h : f (k - 1) with
                      | false => rfl
                      | true => exact absurd (.inr h) hfk)
                    rw [hz] at e1
                    clear hyes hno hzr hval hz hfk hb
                    go_upto_region 24 with fail
                    go_quiet (fail)
                    go_wp2_with fail
                    go_roundw
                    case rel => exact ⟨k + 1, by omega, by go_num, Lib.hid (by obtain ⟨q, e⟩ := HQ.out; exact ⟨q + nq, by rw [e, World.drewN_drewN]⟩)⟩
                    case measure => simp [intOf]; omega
                · obtain rfl : q0 = k := by omega
                  have HBZ := Lib.hid (HB8.out.trans (hb.mono HB8.out.size))
                  clear hlt hk hb
                  go_wp2_with fail
                  go_at_call 8; refine (lives8_any C _).mono ?_; rintro e wb ⟨rfl, bb⟩
                  have HBB := Lib.hid (HBZ.out.trans (bb.mono HBZ.out.size))
                  clear bb
                  go_wp2_with fail
                  go_ret
                  exact ⟨rfl, HBB.out⟩
    · have d0 : decide (40 < (n : Int)) = true := by simp; omega
      go_enter Try.func5, Try.ntmps5
      go_wp2_with fail
      go_at_call 7; refine (Small8_of HSM.out _ HV.out (by omega) (by omega)).mono ?_; rintro e w' ⟨rfl, rfl⟩
      go_wp2_with fail
      go_at_call 8; refine (lives8_any C _).mono ?_; rintro e wb ⟨rfl, bb⟩
      have HBB := Lib.hid bb
      clear bb
      go_wp2_with fail
      go_ret
      exact ⟨rfl, HBB.out⟩
  · have HSM := Lib.hid (small_no hsm)
    clear hsm
    go_enter Try.func5, Try.ntmps5
    go_wp2_with fail
    go_at_call 7; refine (Small8_of HSM.out _ HV.out (by omega) (by omega)).mono ?_; rintro e w' ⟨rfl, rfl⟩
    go_wp2_with fail
    go_at_call 8; refine (lives8_any C _).mono ?_; rintro e wb ⟨rfl, bb⟩
    have HBB := Lib.hid bb
    clear bb
    go_wp2_with fail
    go_ret
    exact ⟨rfl, HBB.out⟩
end Go.Proofs.Ytbdmndhjbemenaa.aig
