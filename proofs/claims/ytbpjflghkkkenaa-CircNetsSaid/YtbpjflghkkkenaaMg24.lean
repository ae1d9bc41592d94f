import Derived.Test.YtbpjflghkkkenaaMg23
import Derived.OwnWalk
import Derived.Test.YtbpjflghkkkenaaMg16
import Derived.Test.YtbpjflghkkkenaaMg21
/- The walk of Net. -/
namespace Go.Proofs.Ytbpjflghkkkenaa.row
set_option maxRecDepth 100000
open Go.RowKit
open Go.Proofs.Ytbpjflghkkkenaa.aig (Only KNds infoN nodeCells nodeCells_len nodeCells_snoc)
open Go.Proofs.Ytbpjflghkkkenaa.fns Go.Proofs.Ytbpjflghkkkenaa.heap
open Go.Proofs.Ytbpjflghkkkenaa.ints (Ints ints_of_owned ints_cell below_drewN)

theorem ints_blk {w : World} {G : Nat} {zs : List Int} (h : Blk w G (intA zs)) (hm : zs.length ≤ maxLen) : Ints w (.slice (some ⟨G, 0, none⟩) zs.length zs.length) zs := by
  refine ⟨_, _, rfl, Nat.le_refl _, hm, fun hp => ⟨G, 0, rfl, h.lt, fun i hi => ?_⟩⟩
  rw [Nat.zero_add]
  exact ((h.cell i).1).trans (intA_at hi 0)
/-- the blocks that were there -/
def Kd (T : Nat) (k : Nat) : Prop := k < T
theorem below_kd {T : Nat} {w0 w w' : World} (h : Below T w0 w) (o : Only (fun k => ¬ Kd T k) w w') (hs : T ≤ w.heap.size) : Below T w0 w' :=
  below_only h o (fun _ hk => Nat.not_lt.1 hk) hs
theorem follow_q {G q : Nat} {zs : List Int} {l y : Int} (h : litP zs l = y) (w : World) (hg : Blk w G (intA zs)) (hq : zs.length = q) (hl : 0 ≤ l ∧ l ≤ 33554433) (hi : (l / 2).toNat < zs.length) (hy : 0 ≤ zs.getD (l / 2).toNat 0 ∧ zs.getD (l / 2).toNat 0 ≤ 33554433) :
    Calls Try.prog 29 #[.slice (some ⟨G, 0, none⟩) q q, .int .i64 l] w fun e w' => e = .returned (.int .i64 y) ∧ w' = w := by
  subst h; exact follow_any G q zs l w hg hq hl hi hy
set_option maxHeartbeats 12800000 in
theorem net_any (D : CD) (F : CF) (P : Nat → Prop) (w : World) (hc : InC P w D F) (hl : Lens D) (hz : checkF D = 0) : Calls Try.prog 12 #[cval D F] w (TellsN (netF D) w) := by
  have hmf : ∀ (fn : Fn) (first cap : Array Value) (w : World), (Instr.makeFunc fn first cap).run Try.prog w = .ok (.func fn first cap) w := fun _ _ _ _ => rfl
  obtain ⟨i0, hi0, hz0, hz1, hz2⟩ := info_parts infoN
  have HG := Lib.hid (goodC hz)
  have B0 : Below w.heap.size w (w.alloc (.cells (ccells D F) 27)) := (Below.refl _ _).alloc (Nat.le_refl _) _
  have HC := Lib.hid (hc.on B0)
  have HX := Lib.hid (blk_new w (ccells D F) 27)
  have HB := Lib.hid B0
  have HK := Lib.hid (look_any D F P _ (hc.on B0) hl)
  have HZ := Lib.hid hz
  obtain ⟨v, hv⟩ : ∃ v, v = w.alloc (.cells (ccells D F) 27) := ⟨_, rfl⟩
  obtain ⟨X, hX⟩ : ∃ X, X = w.heap.size := ⟨_, rfl⟩
  have hni : D.ins.length ≤ 1000 := hl.i
  have hnl : D.lats.length ≤ 1000 := hl.l
  have hng : D.gates.length ≤ 1000 := hl.g
  rw [← hv] at HC HX HB HK
  have HVW := Lib.hid hv
  have HXW := Lib.hid hX
  rw [← hX] at HX
  clear B0 hc hl hv hX hz
  go_enter Try.func12, Try.ntmps12
  go_upto_region 1 with fail
  rw [← HVW.out, ← HXW.out]
  have k0 : v.cell? ⟨X, 0, none⟩ = some (.int .i64 D.max) := (HX.out.cell 0).1
  have k1 : v.cell? ⟨X, 1, none⟩ = some (.slice F.ai D.ins.length F.ci) := (HX.out.cell 1).1
  have k2 : v.cell? ⟨X, 2, none⟩ = some (.slice F.al D.lats.length F.cl) := (HX.out.cell 2).1
  have k3 : v.cell? ⟨X, 3, none⟩ = some (.slice F.ao D.outs.length F.co) := (HX.out.cell 3).1
  have k4 : v.cell? ⟨X, 4, none⟩ = some (.slice F.ab D.bads.length F.cb) := (HX.out.cell 4).1
  have k5 : v.cell? ⟨X, 5, none⟩ = some (.slice F.ac D.cons.length F.cc) := (HX.out.cell 5).1
  have k6 : v.cell? ⟨X, 6, none⟩ = some (.slice F.ag D.gates.length F.cg) := (HX.out.cell 6).1
  have k7 : v.cell? ⟨X, 7, none⟩ = some (.slice F.as_ D.syms.length F.cs) := (HX.out.cell 7).1
  have k8 : v.cell? ⟨X, 8, none⟩ = some (.string D.com) := (HX.out.cell 8).1
  have lX := HX.out.lt
  go_wp2_with fail
  go_at_call 21; refine HK.out.mono ?_; rintro e w1 ⟨ov, rfl, ho, b1⟩
  rw [HZ.out]
  have ho2 := ho HZ.out
  have hm1 : (orderL D.gates).length ≤ 1000 := by rw [HG.out.full]; exact hng
  obtain ⟨m, hm⟩ : ∃ m, m = (orderL D.gates).length := ⟨_, rfl⟩
  obtain ⟨oa, oc, rfl⟩ := owns_form ho2
  have HORD := Lib.hid (ints_of_owned ho2)
  rw [← hm] at HORD hm1 ⊢
  have HM := Lib.hid hm
  have HX1 := Lib.hid (HX.out.on b1)
  have HC1 := Lib.hid (HC.out.on b1)
  have HB1 := Lib.hid (HB.out.trans (b1.mono HB.out.size))
  clear ho ho2 b1 hm k0 k1 k2 k3 k4 k5 k6 k7 k8 lX
  have k0 : w1.cell? ⟨X, 0, none⟩ = some (.int .i64 D.max) := (HX1.out.cell 0).1
  have k1 : w1.cell? ⟨X, 1, none⟩ = some (.slice F.ai D.ins.length F.ci) := (HX1.out.cell 1).1
  have k2 : w1.cell? ⟨X, 2, none⟩ = some (.slice F.al D.lats.length F.cl) := (HX1.out.cell 2).1
  have lX := HX1.out.lt
  obtain ⟨ni, hnie⟩ : ∃ ni, ni = D.ins.length := ⟨_, rfl⟩
  obtain ⟨nl, hnle⟩ : ∃ nl, nl = D.lats.length := ⟨_, rfl⟩
  have HNI := Lib.hid hnie
  have HNL := Lib.hid hnle
  rw [← hnie] at k1 hni
  rw [← hnle] at k2 hnl
  obtain ⟨T, hT⟩ : ∃ T, T = w1.heap.size := ⟨_, rfl⟩
  have HT := Lib.hid hT
  clear hnie hnle
  go_wp2_with (refine wpList_make_own w1 (o := ⟨some 33, _, _, _, _, _⟩) rfl _ (.tmp 32) 35 rfl w1.heap.size 42 i0 _ 2 Try.underlying35 hi0 hz0 hz1 .i64 .i64 ((ni : Int) + (nl : Int) + (m : Int)) (ni + nl + m) rfl rfl (by omega) (by rw [hz2]; omega) (by unfold maxLen; omega) (Nat.le_refl _) ?_)
  intro w2 hown hgrow
  have b2 : Below T w1 w2 := by rw [hT]; exact ⟨hgrow.os, hgrow.tape, hgrow.output, hgrow.size, fun k hk => hgrow.block k hk (by simp)⟩
  rw [← hT] at hown ⊢
  have hs2 : T ≤ w2.heap.size := by rw [hT]; exact hgrow.size
  have q2 : ∀ (x : World) (b : Obj), Below x.heap.size x (x.alloc b) := fun x b => (Below.refl _ _).alloc (Nat.le_refl _) _
  -- the variable of the nodes
  have HNB := Lib.hid (blk_new w2 #[.slice (some ⟨T, 0, none⟩) 0 (ni + nl + m)] 35)
  have HOW := Lib.hid (own_only2 (Q := fun _ => False) hown (fun _ _ => id) (only_of (q2 w2 (.cells #[.slice (some ⟨T, 0, none⟩) 0 (ni + nl + m)] 35))))
  have HTN := Lib.hid (show T < w2.heap.size from (hown.lt T rfl).2)
  have b3 : Below T w1 (w2.alloc (.cells #[.slice (some ⟨T, 0, none⟩) 0 (ni + nl + m)] 35)) := b2.trans ((q2 _ _).mono hs2)
  obtain ⟨w3, hw3⟩ : ∃ w3, w3 = w2.alloc (.cells #[.slice (some ⟨T, 0, none⟩) 0 (ni + nl + m)] 35) := ⟨_, rfl⟩
  obtain ⟨N, hN⟩ : ∃ N, N = w2.heap.size := ⟨_, rfl⟩
  rw [← hw3] at HNB HOW b3
  rw [← hN] at HNB HTN
  have HB3 := Lib.hid b3
  have HW3 := Lib.hid hw3
  have HNE := Lib.hid hN
  clear hown hgrow b2 b3 hw3 hN k0 k1 k2 lX hT hs2
  go_upto_region 5 with fail
  rw [← HW3.out, ← HNE.out]
  have HTS : Hid (T ≤ w3.heap.size) := Lib.hid (by have := HNB.out.lt; have := HTN.out; omega)
  have HX3 := Lib.hid (HX1.out.on (by rw [← HT.out]; exact HB3.out))
  have k0 : w3.cell? ⟨X, 0, none⟩ = some (.int .i64 D.max) := (HX3.out.cell 0).1
  have lX := HX3.out.lt
  obtain ⟨q, hq⟩ : ∃ q, q = D.max.toNat + 1 := ⟨_, rfl⟩
  have hmax := HG.out.max
  have HQ := Lib.hid hq
  have hq1 : q ≤ 16777217 := by omega
  have hq0 : 0 < q := by omega
  have e1 : D.max + 1 = (q : Int) := by omega
  have E1 := Lib.hid e1
  have HLB := Lib.hid (blk_new w3 #[.int .i64 (-1)] 3)
  have HL2 : Hid (Below w3.heap.size w3 (w3.alloc (.cells #[.int .i64 (-1)] 3))) := Lib.hid (q2 _ _)
  clear hq e1
  go_wp2_with fail
  go_at_call 25; refine (repeat_of (-1) q w3.heap.size _ E1.out (by omega) HLB.out).mono ?_; rintro e w4 ⟨G, rfl, hg1, hg2, b4⟩
  have b4' := HL2.out.trans (b4.mono HL2.out.size)
  have n4 := HNB.out.on b4'
  have o4 := own_only2 (Q := fun _ => False) HOW.out (fun _ _ => id) (only_of b4')
  have B4 : Below T w1 w4 := HB3.out.trans (b4'.mono HTS.out)
  have g4 : Blk w4 G (intA (List.replicate q (-1))) := ⟨_, hg2⟩
  have l4 : w3.heap.size < G := by have := hg1; simp at this; omega
  have q5 := q2 w4 (.cells #[.slice (some ⟨G, 0, none⟩) q q] 22)
  have HNS : Hid (Ns (Kd T) T N w4.heap.size G q ([], List.replicate q (-1)) (w4.alloc (.cells #[.slice (some ⟨G, 0, none⟩) q q] 22))) := Lib.hid (by
    have lN := HNB.out.lt
    have lN4 := n4.lt
    have lG := g4.lt
    have hTN := HTN.out
    refine ⟨⟨_, n4.on q5, own_only2 (Q := fun _ => False) o4 (fun _ _ => id) (only_of q5), fun k hk => ?_⟩, blk_new w4 _ _, g4.on q5, by simp, ⟨by omega, by omega, by omega⟩, ⟨by omega, by omega, by omega⟩, fun k hk => ?_⟩
    · obtain rfl : T = k := by simpa [Value.ownBlock] using hk
      exact ⟨by omega, by omega, by omega, fun e => by unfold Kd at e; omega⟩
    · unfold Kd at hk
      refine ⟨by omega, by omega, by omega, ?_⟩
      have := q5.size
      omega)
  have HB5 : Hid (Below T w1 (w4.alloc (.cells #[.slice (some ⟨G, 0, none⟩) q q] 22))) := Lib.hid (B4.trans (q5.mono B4.size |> fun h => by have := HTS.out; have := b4'.size; exact q5.mono (by omega)))
  obtain ⟨w5, hw5⟩ : ∃ w5, w5 = w4.alloc (.cells #[.slice (some ⟨G, 0, none⟩) q q] 22) := ⟨_, rfl⟩
  obtain ⟨Lc, hLc⟩ : ∃ Lc, Lc = w4.heap.size := ⟨_, rfl⟩
  rw [← hw5] at HNS HB5
  rw [← hLc] at HNS
  have HW5 := Lib.hid hw5
  have HLC := Lib.hid hLc
  clear b4 b4' n4 o4 B4 g4 l4 q5 q2 hg1 hg2 hw5 hLc HNB HOW k0 lX HLB HL2
  go_upto_region 6 with fail
  rw [← HW5.out, ← HLC.out]
  have z0 : w5.cell? ⟨Lc, 0, none⟩ = some (.slice (some ⟨G, 0, none⟩) q q) := (HNS.out.lb.cell 0).1
  obtain ⟨z1, z2⟩ := HNS.out.g.cell 0
  have z3 := z1.trans (intA_at (zs := List.replicate q (-1)) (by simpa using hq0) 0)
  obtain ⟨zz, hzz⟩ : ∃ zz, zz = (List.replicate q (-1 : Int)).getD 0 0 := ⟨_, rfl⟩
  rw [← hzz] at z3
  have l1 := HNS.out.lb.lt
  have l2 := HNS.out.g.lt
  have hs6 : Hid (Ns (Kd T) T N Lc G q (insS D 0) (w5.setCell ⟨G, 0, none⟩ (.int .i64 0)) ∧ Below T w1 (w5.setCell ⟨G, 0, none⟩ (.int .i64 0))) := Lib.hid (by
    have h := HNS.out.put 0 0
    have e : ((([] : List (Int × Int)), (List.replicate q (-1 : Int)).set 0 0) : NS) = insS D 0 := by
      show _ = (([] : List (Int × Int)), at0 D.max.toNat)
      rw [HQ.out, List.replicate_succ]; rfl
    refine ⟨by have := h.1; rw [e] at this; exact this, below_kd HB5.out h.2 (by have := HNS.out.low; have := HNS.out.g.lt; omega)⟩)
  clear z1 hzz
  have q00 : 0 < (q : Int) := by omega
  go_upto_region 8 with fail
  obtain ⟨w6, hw6⟩ : ∃ w6, w6 = w5.setCell ⟨G, 0, none⟩ (.int .i64 0) := ⟨_, rfl⟩
  rw [← hw6] at hs6 ⊢
  clear hw6 z0 z2 z3 l1 l2 HNS HB5
  have HNS := Lib.hid hs6.out.1
  have HB6 := Lib.hid hs6.out.2
  have KX : Hid (∀ u, Below T w1 u → u.cell? ⟨X, 1, none⟩ = some (.slice F.ai ni F.ci) ∧ u.cell? ⟨X, 2, none⟩ = some (.slice F.al nl F.cl) ∧ u.cell? ⟨X, 6, none⟩ = some (.slice F.ag D.gates.length F.cg) ∧ X < u.heap.size ∧ InC P u D F) := Lib.hid (fun u hu => by
    rw [HT.out] at hu
    refine ⟨?_, ?_, ((HX1.out.on hu).cell 6).1, (HX1.out.on hu).lt, HC1.out.on hu⟩
    · rw [HNI.out]; exact ((HX1.out.on hu).cell 1).1
    · rw [HNL.out]; exact ((HX1.out.on hu).cell 2).1)
  have KO : Hid (∀ u, Below T w1 u → Ints u (.slice oa m oc) (orderL D.gates)) := Lib.hid (fun u hu => by rw [HT.out] at hu; exact HORD.out.on hu)
  have HTZ : Hid (∀ u s, Ns (Kd T) T N Lc G q s u → T ≤ u.heap.size) := Lib.hid (fun u s h => by have := h.low; have := h.g.lt; omega)
  obtain ⟨x1, x2, x6, lX, -⟩ := KX.out w6 HB6.out
  clear hs6
  go_wp2_with fail
  go_loopw [45] (fun i wr => ∃ k : Nat, k ≤ ni ∧ i = .int .i64 k ∧ Hid (Ns (Kd T) T N Lc G q (insS D k) wr) ∧ Hid (Below T w1 wr)) (fun i _ => ni - (intOf i).toNat)
  case atStart => exact ⟨0, Nat.zero_le _, rfl, HNS, HB6⟩
  case round =>
    clear HNS HB6 x1 x2 x6 lX
    obtain ⟨k, hk, rfl, HNS, HBL⟩ := hrel
    obtain ⟨wo, rfl⟩ : ∃ wo : World, wo = wr := ⟨_, rfl⟩
    by_cases hlt : k < ni
    · obtain ⟨-, -, -, -, hic⟩ := KX.out wo HBL.out
      have hk2 : k < D.ins.length := by rw [← HNI.out]; exact hlt
      have hins := ints_cell hic.i.ints (k := k) (by exact hk2)
      obtain ⟨b, off, hai, hbl, e0⟩ := hins
      have HSTP := Lib.hid (ins_step D hk2)
      have HIA := Lib.hid (ins_all HG.out k (Nat.le_of_lt hk2))
      obtain ⟨l, hle⟩ : ∃ l, l = D.ins.getD k 0 := ⟨_, rfl⟩
      rw [← hle] at e0 HSTP
      have hlo := HG.out.own l (by rw [hle]; unfold ownedL; exact List.mem_append_left _ (List.mem_append_left _ (getD_mem hk2)))
      have HP := Lib.hid (netPut_any (Kd T) T N Lc G q (insS D k) wo l (-1) 0 HNS.out (by omega) (by have := HQ.out; omega) (by rw [HIA.out.2.1]; omega))
      have d1 : (k : Int) < (ni : Int) := by omega
      have d2 : 0 ≤ (k : Int) := by omega
      rw [hai]
      clear hic hk2 hle hlo hai
      go_wp2_with fail
      go_at_call 26; refine HP.out.mono ?_; rintro e w7 ⟨rfl, p1, p2⟩
      have HN7 : Hid (Ns (Kd T) T N Lc G q (insS D (k + 1)) w7) := Lib.hid (by rw [HSTP.out]; exact p1)
      have HB7 := Lib.hid (below_kd HBL.out p2 (HTZ.out _ _ HNS.out))
      clear p1 p2 e0
      go_wp2_with fail
      go_roundw
      case rel => exact ⟨k + 1, by omega, by go_num, HN7, HB7⟩
      case measure => simp [intOf]; omega
    · obtain rfl : ni = k := by omega
      have HNS2 : Hid (Ns (Kd T) T N Lc G q (latS D 0) wo) := Lib.hid (by
        have h := HNS.out
        rw [HNI.out] at h
        exact h)
      obtain ⟨x1, x2, x6, lX, -⟩ := KX.out wo HBL.out
      clear HNS hlt hk
      go_wp2_with fail
      go_loopw [57] (fun i wr => ∃ k : Nat, k ≤ nl ∧ i = .int .i64 k ∧ Hid (Ns (Kd T) T N Lc G q (latS D k) wr) ∧ Hid (Below T w1 wr)) (fun i _ => nl - (intOf i).toNat)
      case atStart => exact ⟨0, Nat.zero_le _, rfl, HNS2, HBL⟩
      case round =>
        clear HNS2 HBL x1 x2 x6 lX
        obtain ⟨k, hk, rfl, HNS, HBL⟩ := hrel
        obtain ⟨wo, rfl⟩ : ∃ wo : World, wo = wr := ⟨_, rfl⟩
        by_cases hlt : k < nl
        · obtain ⟨-, -, -, -, hic⟩ := KX.out wo HBL.out
          have hk2 : k < D.lats.length := by rw [← HNL.out]; exact hlt
          obtain ⟨b, off, hai, hbl, e0, e1, e2⟩ := hic.l.at3 hk2
          have HSTP := Lib.hid (lat_step D hk2)
          have HLA := Lib.hid (lat_all HG.out k (Nat.le_of_lt hk2))
          obtain ⟨l, hle⟩ : ∃ l, l = (D.lats.getD k (0, 0, 0)).1 := ⟨_, rfl⟩
          obtain ⟨l1, hl1⟩ : ∃ l, l = (D.lats.getD k (0, 0, 0)).2.1 := ⟨_, rfl⟩
          obtain ⟨l2, hl2⟩ : ∃ l, l = (D.lats.getD k (0, 0, 0)).2.2 := ⟨_, rfl⟩
          rw [← hle] at e0 HSTP
          rw [← hl1] at e1
          rw [← hl2] at e2
          have hlm : D.lats.getD k (0, 0, 0) ∈ D.lats := by
            have e : D.lats.getD k (0, 0, 0) = D.lats[k] := by simp [List.getD, hk2]
            rw [e]; exact List.getElem_mem _
          have hlo := HG.out.own l (by rw [hle]; unfold ownedL; exact List.mem_append_left _ (List.mem_append_right _ (List.mem_map.2 ⟨_, hlm, rfl⟩)))
          have hba : Below wo.heap.size wo (wo.alloc (.cells #[.int .i64 l, .int .i64 l1, .int .i64 l2] 45)) := (Below.refl _ _).alloc (Nat.le_refl _) _
          have HP := Lib.hid (netPut_any (Kd T) T N Lc G q (latS D k) _ l (-1) 0 (HNS.out.on hba) (by omega) (by have := HQ.out; omega) (by rw [HLA.out.2.1, ← HNI.out]; omega))
          have HBA := Lib.hid (HBL.out.trans (hba.mono (HTZ.out _ _ HNS.out)))
          have HNA := Lib.hid (HNS.out.on hba)
          have d1 : (k : Int) < (nl : Int) := by omega
          have d2 : 0 ≤ (k : Int) := by omega
          rw [hai]
          clear hic hk2 hle hl1 hl2 hlm hlo hai hba
          go_wp2_with fail
          go_at_call 26; refine HP.out.mono ?_; rintro e w7 ⟨rfl, p1, p2⟩
          have HN7 : Hid (Ns (Kd T) T N Lc G q (latS D (k + 1)) w7) := Lib.hid (by rw [HSTP.out]; exact p1)
          have HB7 := Lib.hid (below_kd HBA.out p2 (HTZ.out _ _ HNA.out))
          clear p1 p2 e0 e1 e2
          go_wp2_with fail
          go_roundw
          case rel => exact ⟨k + 1, by omega, by go_num, HN7, HB7⟩
          case measure => simp [intOf]; omega
        · obtain rfl : nl = k := by omega
          have HNS2 : Hid (Ns (Kd T) T N Lc G q (ordS D 0) wo) := Lib.hid (by
            have h := HNS.out
            rw [HNL.out] at h
            exact h)
          clear HNS hlt hk
          go_wp2_with fail
          go_loopw [69] (fun i wr => ∃ k : Nat, k ≤ m ∧ i = .int .i64 k ∧ Hid (Ns (Kd T) T N Lc G q (ordS D k) wr) ∧ Hid (Below T w1 wr)) (fun i _ => m - (intOf i).toNat)
          case atStart => exact ⟨0, Nat.zero_le _, rfl, HNS2, HBL⟩
          case round =>
            clear HNS2 HBL
            obtain ⟨k, hk, rfl, HNS, HBL⟩ := hrel
            obtain ⟨wo, rfl⟩ : ∃ wo : World, wo = wr := ⟨_, rfl⟩
            by_cases hlt : k < m
            · obtain ⟨-, -, x6, lX, hic⟩ := KX.out wo HBL.out
              have hlt2 : k < (orderL D.gates).length := by rw [← HM.out]; exact hlt
              have HO := Lib.hid (ord_all HG.out k (by omega))
              obtain ⟨i, hi1, hi2, hi3, hi4⟩ := ord_known HG.out hlt2 HO.out
              have HSTP := Lib.hid (ordS_step D hlt2)
              rw [hi1, Int.toNat_natCast] at HSTP
              obtain ⟨ob, ooff, hoa, hob, eo⟩ := ints_cell (KO.out wo HBL.out) (k := k) (by exact hlt)
              rw [hi1] at eo
              obtain ⟨b, off, hba, hbl, e0, e1, e2⟩ := hic.g.at3 hi2
              obtain ⟨g, hg⟩ : ∃ g, g = D.gates.getD i (0, 0, 0) := ⟨_, rfl⟩
              rw [← hg] at e0 e1 e2 hi3 hi4 HSTP
              obtain ⟨gl, ga1, gb1⟩ := g
              obtain ⟨pa1, pa2⟩ := hi4 ga1 (.inl rfl)
              obtain ⟨pb1, pb2⟩ := hi4 gb1 (.inr rfl)
              simp only at e0 e1 e2 hi3
              have hal : Below wo.heap.size wo (wo.alloc (.cells #[.int .i64 gl, .int .i64 ga1, .int .i64 gb1] 47)) := (Below.refl _ _).alloc (Nat.le_refl _) _
              have HNA := Lib.hid (HNS.out.on hal)
              have HBA := Lib.hid (HBL.out.trans (hal.mono (HTZ.out _ _ HNS.out)))
              have HBX := Lib.hid (blk_new wo #[.int .i64 gl, .int .i64 ga1, .int .i64 gb1] 47)
              have LBD : ∀ x : Int, 0 ≤ x ∧ x ≤ 2 * D.max + 1 → 0 ≤ atV (ordS D k).2 x → (0 ≤ x ∧ x ≤ 33554433) ∧ (x / 2).toNat < (ordS D k).2.length ∧ 0 ≤ (ordS D k).2.getD (x / 2).toNat 0 ∧ (ordS D k).2.getD (x / 2).toNat 0 ≤ 33554433 := fun x h1 h2 => by
                have h3 := (HO.out.net.bd (x / 2).toNat).2.1
                have h4 := HO.out.len
                have h5 : 0 ≤ (ordS D k).2.getD (x / 2).toNat 0 := h2
                have h6 := HNS.out.len
                have h7 := HQ.out
                rw [← HNI.out, ← HNL.out] at h4
                refine ⟨by omega, by omega, h5, by omega⟩
              have LA := Lib.hid (LBD ga1 pa1 pa2)
              have LB := Lib.hid (LBD gb1 pb1 pb2)
              obtain ⟨ra, hra⟩ : ∃ r, r = litP (ordS D k).2 ga1 := ⟨_, rfl⟩
              obtain ⟨rb, hrb⟩ : ∃ r, r = litP (ordS D k).2 gb1 := ⟨_, rfl⟩
              have HRA := Lib.hid hra.symm
              have HRB := Lib.hid hrb.symm
              have HLN : Hid ((ordS D k).1.length ≤ 100000) := Lib.hid (by have h4 := HO.out.len; rw [← HNI.out, ← HNL.out] at h4; omega)
              have HGL : Hid ((0 ≤ gl ∧ gl ≤ 33554433) ∧ (gl / 2).toNat < q) := Lib.hid ⟨by omega, by have := HQ.out; omega⟩
              have HN2 : Hid (ordS D (k + 1) = ((ordS D k).1 ++ [(ra, rb)], (ordS D k).2.set (gl / 2).toNat (2 * (((ordS D k).1.length : Int) + 1)))) := Lib.hid (by rw [HSTP.out, hra, hrb]; rfl)
              have d1 : (k : Int) < (m : Int) := by omega
              have d2 : 0 ≤ (k : Int) := by omega
              have d3 : (i : Int) < (D.gates.length : Int) := by omega
              have d4 : 0 ≤ (i : Int) := by omega
              rw [hoa]
              rw [hba] at x6
              clear hic hlt2 hi1 hi2 hi3 hi4 hg pa1 pa2 pb1 pb2 LBD hra hrb hoa hba hal HSTP HO
              go_upto_region 22 with fail
              obtain ⟨wj, hwj⟩ : ∃ wj, wj = wo.alloc (.cells #[.int .i64 gl, .int .i64 ga1, .int .i64 gb1] 47) := ⟨_, rfl⟩
              obtain ⟨Y, hY⟩ : ∃ Y, Y = wo.heap.size := ⟨_, rfl⟩
              rw [← hwj] at HNA HBA HBX ⊢
              rw [← hY] at HBX ⊢
              clear hwj hY e0 e1 e2 eo x6 lX hob hbl HNS HBL
              have y0 : wj.drew.cell? ⟨Y, 0, none⟩ = some (.int .i64 gl) := ((HBX.out.drewN 1).cell 0).1
              have y1 : wj.drew.cell? ⟨Y, 1, none⟩ = some (.int .i64 ga1) := ((HBX.out.drewN 1).cell 1).1
              have y2 : wj.drew.cell? ⟨Y, 2, none⟩ = some (.int .i64 gb1) := ((HBX.out.drewN 1).cell 2).1
              have lY : Y < wj.drew.heap.size := (HBX.out.drewN 1).lt
              have HND := Lib.hid (HNA.out.on ((Below.refl wj.heap.size wj).drew))
              have HBD : Hid (Below T w1 wj.drew) := Lib.hid HBA.out.drew
              have z0 : wj.drew.cell? ⟨Lc, 0, none⟩ = some (.slice (some ⟨G, 0, none⟩) q q) := (HND.out.lb.cell 0).1
              have lLc : Lc < wj.drew.heap.size := HND.out.lb.lt
              refine wp_region_still_tail 12 (by kernel_rfl) (by kernel_rfl) ?_
              simp only [List.take_succ_cons, List.take_zero, List.drop_succ_cons, List.drop_zero]
              generalize hW : ({ heap := wj.heap, tape := wj.tape, drawn := wj.drawn + 1, os := wj.os, output := wj.output } : World) = V
              have hWD : wj.drew = V := hW
              rw [hWD] at y0 y1 y2 lY HND HBD z0 lLc
              clear hW hWD HNA HBA HBX
              have HFA := Lib.hid (follow_q HRA.out V HND.out.g HND.out.len LA.out.1 LA.out.2.1 LA.out.2.2)
              have HFB := Lib.hid (follow_q HRB.out V HND.out.g HND.out.len LB.out.1 LB.out.2.1 LB.out.2.2)
              have HP := Lib.hid (netPut_any (Kd T) T N Lc G q (ordS D k) V gl ra rb HND.out HGL.out.1 HGL.out.2 HLN.out)
              repeat (first | still_step | (refine wpStill_step (fun K hK => ?_); go_simp; with_reducible refine ⟨_, HFA.out, hK _ ?_⟩; clear hK K) | (refine wpStill_step (fun K hK => ?_); go_simp; with_reducible refine ⟨_, HFB.out, hK _ ?_⟩; clear hK K))
              refine wpStill_nil ?_
              go_wp2_with fail
              go_at_call 26; refine HP.out.mono ?_; rintro e w7 ⟨rfl, p1, p2⟩
              have HN7 : Hid (Ns (Kd T) T N Lc G q (ordS D (k + 1)) w7) := Lib.hid (by rw [HN2.out]; exact p1)
              have HB7 := Lib.hid (below_kd HBD.out p2 (HTZ.out _ _ HND.out))
              clear p1 p2 y0 y1 y2 z0 lY lLc
              go_wp2_with fail
              go_roundw
              case rel => exact ⟨k + 1, by omega, by go_num, HN7, HB7⟩
              case measure => simp [intOf]; omega
            · obtain rfl : m = k := by omega
              obtain ⟨nv, n1, n2, n3⟩ := HNS.out.nb
              obtain ⟨na, nc, hnv⟩ := owns_form n2
              subst hnv
              have HE : Hid (∀ d, TellsN (netF D) w (.returned (.tuple #[.slice na (ordS D m).1.length nc, .slice (some ⟨G, 0, none⟩) q q])) (wo.drewN d)) := Lib.hid (fun d => by
                have hd : Below wo.heap.size wo (wo.drewN d) := below_drewN (Below.refl _ _) d
                have e : netF D = ordS D m := by unfold netF; rw [HM.out]
                have h1 := own_only2 (Q := fun _ => False) n2 (fun _ _ => id) (only_of hd)
                have h2 := HNS.out.g.on hd
                have hlen := HNS.out.len
                rw [e]
                refine ⟨_, _, rfl, knds_own h1 (fun k hk => hk.elim), ?_, ?_⟩
                · have := ints_blk h2 (by unfold maxLen; omega)
                  rw [hlen] at this
                  exact this
                · have hb1 := HB1.out
                  have hT2 := HT.out
                  have hbl := HBL.out
                  rw [hT2] at hbl
                  exact hb1.trans ((hbl.trans (hd.mono hbl.size)).mono hb1.size))
              have y0 : wo.cell? ⟨N, 0, none⟩ = some (.slice na (ordS D m).1.length nc) := (n1.cell 0).1
              have y1 : wo.cell? ⟨Lc, 0, none⟩ = some (.slice (some ⟨G, 0, none⟩) q q) := (HNS.out.lb.cell 0).1
              have lN := n1.lt
              have lL := HNS.out.lb.lt
              clear n1 n2 n3 hlt hk
              go_wp2_with fail
              go_quiet (fail)
              go_wp2_with fail
              go_ret2
              exact HE.out _
end Go.Proofs.Ytbpjflghkkkenaa.row

/- Equal, of four kinds; Same. (Printed by mkZu.py.) -/
namespace Go.Proofs.Ytbpjflghkkkenaa.row
set_option maxRecDepth 100000
open Go.RowKit
open Go.Proofs.Ytbpjflghkkkenaa.ints (below_drewN)


set_option maxHeartbeats 3200000 in
theorem equal_int (v u : Value) (xs ys : List Int) (P Q : Nat → Prop) (w : World) (hv : Rw enc1 1 P w v xs) (hu : Rw enc1 1 Q w u ys) {r : Bool} (hr : decide (xs = ys) = r) :
    Calls Try.prog 32 #[v, u] w (SaysT r w) := by
  have HV := Lib.hid hv
  have HU := Lib.hid hu
  have HR := Lib.hid hr
  obtain ⟨a, cap, rfl, l1, l2, -⟩ := hv.form
  obtain ⟨a', cap', rfl, l1', l2', -⟩ := hu.form
  unfold maxLen at l2 l2'
  obtain ⟨n, hnn⟩ : ∃ n, n = xs.length := ⟨_, rfl⟩
  obtain ⟨m, hmm⟩ : ∃ m, m = ys.length := ⟨_, rfl⟩
  rw [← hnn] at l1 HV ⊢
  rw [← hmm] at l1' HU ⊢
  have HN := Lib.hid hnn
  have HM := Lib.hid hmm
  clear hv hu hnn hmm hr
  by_cases hl : n = m
  · subst hl
    have t1 : ((n : Int) != (n : Int)) = false := by simp
    go_enter Try.func32, Try.ntmps32
    go_wp2_with fail
    clear t1
    go_loopw [13] (fun i wr => ∃ k : Nat, k ≤ n ∧ i = .int .i64 k ∧ Hid (∀ j, j < k → xs[j]? = ys[j]?) ∧ Hid (Below w.heap.size w wr)) (fun i _ => n - (intOf i).toNat)
    case atStart => exact ⟨0, Nat.zero_le _, rfl, Lib.hid (fun j hj => by omega), Lib.hid (Below.refl _ _)⟩
    case round =>
      obtain ⟨k, hk, rfl, HJ, HB⟩ := hrel
      obtain ⟨wo, rfl⟩ : ∃ wo : World, wo = wr := ⟨_, rfl⟩
      by_cases hlt : k < n
      · obtain ⟨x, hx⟩ : ∃ x, xs[k]? = some x := ⟨_, List.getElem?_eq_getElem (by rw [← HN.out]; exact hlt)⟩
        obtain ⟨y, hy⟩ : ∃ y, ys[k]? = some y := ⟨_, List.getElem?_eq_getElem (by rw [← HM.out]; exact hlt)⟩
        obtain ⟨b, off, rfl, hb, hc⟩ := (HV.out.on HB.out).at_ hx
        obtain ⟨b', off', rfl, hb', hc'⟩ := (HU.out.on HB.out).at_ hy
        have c0 : wo.cell? ⟨b, off + k, none⟩ = some (.int .i64 x) := by have := hc 0 (.int .i64 x) rfl; simpa using this
        have e0 : wo.cell? ⟨b', off' + k, none⟩ = some (.int .i64 y) := by have := hc' 0 (.int .i64 y) rfl; simpa using this
        have d1 : (k : Int) < (n : Int) := by omega
        have d2 : 0 ≤ (k : Int) := by omega
        have HX := Lib.hid hx
        have HY := Lib.hid hy
        clear hc hc' hx hy
        by_cases hxy : x = y
        · have HJ2 : Hid (∀ j, j < k + 1 → xs[j]? = ys[j]?) := Lib.hid (fun j hj => by
            by_cases e : j = k
            · rw [e, HX.out, HY.out, hxy]
            · exact HJ.out j (by omega))
          have HB2 : Hid (∀ q, Below w.heap.size w (wo.drewN q)) := Lib.hid (fun q => below_drewN HB.out q)
          have q1 : (x != y) = false := by simp [hxy]
          have q2 : (x == y) = true := by simp [hxy]
          clear hxy
          go_wp2_with fail
          go_quiet (fail)
          go_wp2_with fail
          go_roundw
          case rel => exact ⟨k + 1, by omega, by go_num, HJ2, Lib.hid (HB2.out _)⟩
          case measure => simp [intOf]; omega
        · have HE : Hid (∀ q, SaysT r w (.returned (.bool false)) (wo.drewN q)) := Lib.hid (fun q => by
            have e : r = false := by
              rw [← HR.out, decide_eq_false_iff_not]
              intro e
              have h1 := HX.out
              rw [e, HY.out] at h1
              exact hxy (Option.some.inj h1).symm
            exact ⟨by rw [e], below_drewN HB.out q⟩)
          have q1 : (x != y) = true := by simp [hxy]
          have q2 : (x == y) = false := by simp [hxy]
          clear hxy
          go_wp2_with fail
          go_quiet (fail)
          go_wp2_with fail
          go_ret
          exact HE.out _
      · obtain rfl : n = k := by omega
        have HE : Hid (SaysT r w (.returned (.bool true)) wo) := Lib.hid (by
          have e : r = true := by
            rw [← HR.out, decide_eq_true_eq]
            exact ext_of (by rw [← HN.out, ← HM.out]) (fun t ht => HJ.out t (by rw [HN.out]; exact ht))
          exact ⟨by rw [e], HB.out⟩)
        clear hlt hk
        go_wp2_with fail
        go_ret
        exact HE.out
  · have t1 : ((n : Int) != (m : Int)) = true := by rw [bne_iff_ne]; omega
    have t2 : ((n : Int) == (m : Int)) = false := by rw [beq_eq_false_iff_ne]; omega
    have t3 : (n != m) = true := by rw [bne_iff_ne]; exact hl
    have t4 : (n == m) = false := by rw [beq_eq_false_iff_ne]; exact hl
    have HE : Hid (SaysT r w (.returned (.bool false)) w) := Lib.hid (by
      have e : r = false := by
        rw [← HR.out, decide_eq_false_iff_not]
        intro e
        exact hl (by rw [HN.out, HM.out, e])
      exact ⟨by rw [e], Below.refl _ _⟩)
    go_enter Try.func32, Try.ntmps32
    go_wp2_with fail
    go_ret
    exact HE.out

set_option maxHeartbeats 3200000 in
theorem equal_latch (v u : Value) (xs ys : List Tri) (P Q : Nat → Prop) (w : World) (hv : Rw enc3 3 P w v xs) (hu : Rw enc3 3 Q w u ys) {r : Bool} (hr : decide (xs = ys) = r) :
    Calls Try.prog 33 #[v, u] w (SaysT r w) := by
  have HV := Lib.hid hv
  have HU := Lib.hid hu
  have HR := Lib.hid hr
  obtain ⟨a, cap, rfl, l1, l2, -⟩ := hv.form
  obtain ⟨a', cap', rfl, l1', l2', -⟩ := hu.form
  unfold maxLen at l2 l2'
  obtain ⟨n, hnn⟩ : ∃ n, n = xs.length := ⟨_, rfl⟩
  obtain ⟨m, hmm⟩ : ∃ m, m = ys.length := ⟨_, rfl⟩
  rw [← hnn] at l1 HV ⊢
  rw [← hmm] at l1' HU ⊢
  have HN := Lib.hid hnn
  have HM := Lib.hid hmm
  clear hv hu hnn hmm hr
  by_cases hl : n = m
  · subst hl
    have t1 : ((n : Int) != (n : Int)) = false := by simp
    go_enter Try.func33, Try.ntmps33
    go_wp2_with fail
    clear t1
    go_loopw [13] (fun i wr => ∃ k : Nat, k ≤ n ∧ i = .int .i64 k ∧ Hid (∀ j, j < k → xs[j]? = ys[j]?) ∧ Hid (Below w.heap.size w wr)) (fun i _ => n - (intOf i).toNat)
    case atStart => exact ⟨0, Nat.zero_le _, rfl, Lib.hid (fun j hj => by omega), Lib.hid (Below.refl _ _)⟩
    case round =>
      obtain ⟨k, hk, rfl, HJ, HB⟩ := hrel
      obtain ⟨wo, rfl⟩ : ∃ wo : World, wo = wr := ⟨_, rfl⟩
      by_cases hlt : k < n
      · obtain ⟨x, hx⟩ : ∃ x, xs[k]? = some x := ⟨_, List.getElem?_eq_getElem (by rw [← HN.out]; exact hlt)⟩
        obtain ⟨y, hy⟩ : ∃ y, ys[k]? = some y := ⟨_, List.getElem?_eq_getElem (by rw [← HM.out]; exact hlt)⟩
        obtain ⟨b, off, rfl, hb, hc⟩ := (HV.out.on HB.out).at_ hx
        obtain ⟨b', off', rfl, hb', hc'⟩ := (HU.out.on HB.out).at_ hy
        have c0 : wo.cell? ⟨b, off + k * 3, none⟩ = some (.int .i64 x.1) := by have := hc 0 (.int .i64 x.1) rfl; simpa using this
        have c1 : wo.cell? ⟨b, off + k * 3 + 1, none⟩ = some (.int .i64 x.2.1) := hc 1 (.int .i64 x.2.1) rfl
        have c2 : wo.cell? ⟨b, off + k * 3 + 2, none⟩ = some (.int .i64 x.2.2) := hc 2 (.int .i64 x.2.2) rfl
        have e0 : wo.cell? ⟨b', off' + k * 3, none⟩ = some (.int .i64 y.1) := by have := hc' 0 (.int .i64 y.1) rfl; simpa using this
        have e1 : wo.cell? ⟨b', off' + k * 3 + 1, none⟩ = some (.int .i64 y.2.1) := hc' 1 (.int .i64 y.2.1) rfl
        have e2 : wo.cell? ⟨b', off' + k * 3 + 2, none⟩ = some (.int .i64 y.2.2) := hc' 2 (.int .i64 y.2.2) rfl
        have d1 : (k : Int) < (n : Int) := by omega
        have d2 : 0 ≤ (k : Int) := by omega
        have HX := Lib.hid hx
        have HY := Lib.hid hy
        clear hc hc' hx hy
        by_cases hxy : x = y
        · have HJ2 : Hid (∀ j, j < k + 1 → xs[j]? = ys[j]?) := Lib.hid (fun j hj => by
            by_cases e : j = k
            · rw [e, HX.out, HY.out, hxy]
            · exact HJ.out j (by omega))
          have HB2 : Hid (∀ q, Below w.heap.size w (wo.drewN q)) := Lib.hid (fun q => below_drewN HB.out q)
          have q1 : ∀ z : World, (binOp .neq 45 (.agg #[.int .i64 x.1, .int .i64 x.2.1, .int .i64 x.2.2]) (.agg #[.int .i64 y.1, .int .i64 y.2.1, .int .i64 y.2.2])).run Try.prog z = .ok (.bool false) z := fun z => by
            rw [tri_neqL]; rw [hxy]; simp
          clear hxy
          go_wp2_with fail
          go_quiet (fail)
          go_wp2_with fail
          go_roundw
          case rel => exact ⟨k + 1, by omega, by go_num, HJ2, Lib.hid (HB2.out _)⟩
          case measure => simp [intOf]; omega
        · have HE : Hid (∀ q, SaysT r w (.returned (.bool false)) (wo.drewN q)) := Lib.hid (fun q => by
            have e : r = false := by
              rw [← HR.out, decide_eq_false_iff_not]
              intro e
              have h1 := HX.out
              rw [e, HY.out] at h1
              exact hxy (Option.some.inj h1).symm
            exact ⟨by rw [e], below_drewN HB.out q⟩)
          have q1 : ∀ z : World, (binOp .neq 45 (.agg #[.int .i64 x.1, .int .i64 x.2.1, .int .i64 x.2.2]) (.agg #[.int .i64 y.1, .int .i64 y.2.1, .int .i64 y.2.2])).run Try.prog z = .ok (.bool true) z := fun z => by
            rw [tri_neqL]; congr 2
            obtain ⟨x1, x2, x3⟩ := x
            obtain ⟨y1, y2, y3⟩ := y
            show (!(x1 == y1 && (x2 == y2 && x3 == y3))) = true
            by_cases h1 : x1 = y1 <;> by_cases h2 : x2 = y2 <;> by_cases h3 : x3 = y3 <;> simp [h1, h2, h3]
            exact hxy (by rw [h1, h2, h3])
          clear hxy
          go_wp2_with fail
          go_quiet (fail)
          go_wp2_with fail
          go_ret
          exact HE.out _
      · obtain rfl : n = k := by omega
        have HE : Hid (SaysT r w (.returned (.bool true)) wo) := Lib.hid (by
          have e : r = true := by
            rw [← HR.out, decide_eq_true_eq]
            exact ext_of (by rw [← HN.out, ← HM.out]) (fun t ht => HJ.out t (by rw [HN.out]; exact ht))
          exact ⟨by rw [e], HB.out⟩)
        clear hlt hk
        go_wp2_with fail
        go_ret
        exact HE.out
  · have t1 : ((n : Int) != (m : Int)) = true := by rw [bne_iff_ne]; omega
    have t2 : ((n : Int) == (m : Int)) = false := by rw [beq_eq_false_iff_ne]; omega
    have t3 : (n != m) = true := by rw [bne_iff_ne]; exact hl
    have t4 : (n == m) = false := by rw [beq_eq_false_iff_ne]; exact hl
    have HE : Hid (SaysT r w (.returned (.bool false)) w) := Lib.hid (by
      have e : r = false := by
        rw [← HR.out, decide_eq_false_iff_not]
        intro e
        exact hl (by rw [HN.out, HM.out, e])
      exact ⟨by rw [e], Below.refl _ _⟩)
    go_enter Try.func33, Try.ntmps33
    go_wp2_with fail
    go_ret
    exact HE.out

set_option maxHeartbeats 3200000 in
theorem equal_gate (v u : Value) (xs ys : List Tri) (P Q : Nat → Prop) (w : World) (hv : Rw enc3 3 P w v xs) (hu : Rw enc3 3 Q w u ys) {r : Bool} (hr : decide (xs = ys) = r) :
    Calls Try.prog 34 #[v, u] w (SaysT r w) := by
  have HV := Lib.hid hv
  have HU := Lib.hid hu
  have HR := Lib.hid hr
  obtain ⟨a, cap, rfl, l1, l2, -⟩ := hv.form
  obtain ⟨a', cap', rfl, l1', l2', -⟩ := hu.form
  unfold maxLen at l2 l2'
  obtain ⟨n, hnn⟩ : ∃ n, n = xs.length := ⟨_, rfl⟩
  obtain ⟨m, hmm⟩ : ∃ m, m = ys.length := ⟨_, rfl⟩
  rw [← hnn] at l1 HV ⊢
  rw [← hmm] at l1' HU ⊢
  have HN := Lib.hid hnn
  have HM := Lib.hid hmm
  clear hv hu hnn hmm hr
  by_cases hl : n = m
  · subst hl
    have t1 : ((n : Int) != (n : Int)) = false := by simp
    go_enter Try.func34, Try.ntmps34
    go_wp2_with fail
    clear t1
    go_loopw [13] (fun i wr => ∃ k : Nat, k ≤ n ∧ i = .int .i64 k ∧ Hid (∀ j, j < k → xs[j]? = ys[j]?) ∧ Hid (Below w.heap.size w wr)) (fun i _ => n - (intOf i).toNat)
    case atStart => exact ⟨0, Nat.zero_le _, rfl, Lib.hid (fun j hj => by omega), Lib.hid (Below.refl _ _)⟩
    case round =>
      obtain ⟨k, hk, rfl, HJ, HB⟩ := hrel
      obtain ⟨wo, rfl⟩ : ∃ wo : World, wo = wr := ⟨_, rfl⟩
      by_cases hlt : k < n
      · obtain ⟨x, hx⟩ : ∃ x, xs[k]? = some x := ⟨_, List.getElem?_eq_getElem (by rw [← HN.out]; exact hlt)⟩
        obtain ⟨y, hy⟩ : ∃ y, ys[k]? = some y := ⟨_, List.getElem?_eq_getElem (by rw [← HM.out]; exact hlt)⟩
        obtain ⟨b, off, rfl, hb, hc⟩ := (HV.out.on HB.out).at_ hx
        obtain ⟨b', off', rfl, hb', hc'⟩ := (HU.out.on HB.out).at_ hy
        have c0 : wo.cell? ⟨b, off + k * 3, none⟩ = some (.int .i64 x.1) := by have := hc 0 (.int .i64 x.1) rfl; simpa using this
        have c1 : wo.cell? ⟨b, off + k * 3 + 1, none⟩ = some (.int .i64 x.2.1) := hc 1 (.int .i64 x.2.1) rfl
        have c2 : wo.cell? ⟨b, off + k * 3 + 2, none⟩ = some (.int .i64 x.2.2) := hc 2 (.int .i64 x.2.2) rfl
        have e0 : wo.cell? ⟨b', off' + k * 3, none⟩ = some (.int .i64 y.1) := by have := hc' 0 (.int .i64 y.1) rfl; simpa using this
        have e1 : wo.cell? ⟨b', off' + k * 3 + 1, none⟩ = some (.int .i64 y.2.1) := hc' 1 (.int .i64 y.2.1) rfl
        have e2 : wo.cell? ⟨b', off' + k * 3 + 2, none⟩ = some (.int .i64 y.2.2) := hc' 2 (.int .i64 y.2.2) rfl
        have d1 : (k : Int) < (n : Int) := by omega
        have d2 : 0 ≤ (k : Int) := by omega
        have HX := Lib.hid hx
        have HY := Lib.hid hy
        clear hc hc' hx hy
        by_cases hxy : x = y
        · have HJ2 : Hid (∀ j, j < k + 1 → xs[j]? = ys[j]?) := Lib.hid (fun j hj => by
            by_cases e : j = k
            · rw [e, HX.out, HY.out, hxy]
            · exact HJ.out j (by omega))
          have HB2 : Hid (∀ q, Below w.heap.size w (wo.drewN q)) := Lib.hid (fun q => below_drewN HB.out q)
          have q1 : ∀ z : World, (binOp .neq 47 (.agg #[.int .i64 x.1, .int .i64 x.2.1, .int .i64 x.2.2]) (.agg #[.int .i64 y.1, .int .i64 y.2.1, .int .i64 y.2.2])).run Try.prog z = .ok (.bool false) z := fun z => by
            rw [tri_neqG]; rw [hxy]; simp
          clear hxy
          go_wp2_with fail
          go_quiet (fail)
          go_wp2_with fail
          go_roundw
          case rel => exact ⟨k + 1, by omega, by go_num, HJ2, Lib.hid (HB2.out _)⟩
          case measure => simp [intOf]; omega
        · have HE : Hid (∀ q, SaysT r w (.returned (.bool false)) (wo.drewN q)) := Lib.hid (fun q => by
            have e : r = false := by
              rw [← HR.out, decide_eq_false_iff_not]
              intro e
              have h1 := HX.out
              rw [e, HY.out] at h1
              exact hxy (Option.some.inj h1).symm
            exact ⟨by rw [e], below_drewN HB.out q⟩)
          have q1 : ∀ z : World, (binOp .neq 47 (.agg #[.int .i64 x.1, .int .i64 x.2.1, .int .i64 x.2.2]) (.agg #[.int .i64 y.1, .int .i64 y.2.1, .int .i64 y.2.2])).run Try.prog z = .ok (.bool true) z := fun z => by
            rw [tri_neqG]; congr 2
            obtain ⟨x1, x2, x3⟩ := x
            obtain ⟨y1, y2, y3⟩ := y
            show (!(x1 == y1 && (x2 == y2 && x3 == y3))) = true
            by_cases h1 : x1 = y1 <;> by_cases h2 : x2 = y2 <;> by_cases h3 : x3 = y3 <;> simp [h1, h2, h3]
            exact hxy (by rw [h1, h2, h3])
          clear hxy
          go_wp2_with fail
          go_quiet (fail)
          go_wp2_with fail
          go_ret
          exact HE.out _
      · obtain rfl : n = k := by omega
        have HE : Hid (SaysT r w (.returned (.bool true)) wo) := Lib.hid (by
          have e : r = true := by
            rw [← HR.out, decide_eq_true_eq]
            exact ext_of (by rw [← HN.out, ← HM.out]) (fun t ht => HJ.out t (by rw [HN.out]; exact ht))
          exact ⟨by rw [e], HB.out⟩)
        clear hlt hk
        go_wp2_with fail
        go_ret
        exact HE.out
  · have t1 : ((n : Int) != (m : Int)) = true := by rw [bne_iff_ne]; omega
    have t2 : ((n : Int) == (m : Int)) = false := by rw [beq_eq_false_iff_ne]; omega
    have t3 : (n != m) = true := by rw [bne_iff_ne]; exact hl
    have t4 : (n == m) = false := by rw [beq_eq_false_iff_ne]; exact hl
    have HE : Hid (SaysT r w (.returned (.bool false)) w) := Lib.hid (by
      have e : r = false := by
        rw [← HR.out, decide_eq_false_iff_not]
        intro e
        exact hl (by rw [HN.out, HM.out, e])
      exact ⟨by rw [e], Below.refl _ _⟩)
    go_enter Try.func34, Try.ntmps34
    go_wp2_with fail
    go_ret
    exact HE.out

set_option maxHeartbeats 3200000 in
theorem equal_sym (v u : Value) (xs ys : List Sym) (P Q : Nat → Prop) (w : World) (hv : Rw encS 3 P w v xs) (hu : Rw encS 3 Q w u ys) {r : Bool} (hr : decide (xs = ys) = r) :
    Calls Try.prog 35 #[v, u] w (SaysT r w) := by
  have HV := Lib.hid hv
  have HU := Lib.hid hu
  have HR := Lib.hid hr
  obtain ⟨a, cap, rfl, l1, l2, -⟩ := hv.form
  obtain ⟨a', cap', rfl, l1', l2', -⟩ := hu.form
  unfold maxLen at l2 l2'
  obtain ⟨n, hnn⟩ : ∃ n, n = xs.length := ⟨_, rfl⟩
  obtain ⟨m, hmm⟩ : ∃ m, m = ys.length := ⟨_, rfl⟩
  rw [← hnn] at l1 HV ⊢
  rw [← hmm] at l1' HU ⊢
  have HN := Lib.hid hnn
  have HM := Lib.hid hmm
  clear hv hu hnn hmm hr
  by_cases hl : n = m
  · subst hl
    have t1 : ((n : Int) != (n : Int)) = false := by simp
    go_enter Try.func35, Try.ntmps35
    go_wp2_with fail
    clear t1
    go_loopw [13] (fun i wr => ∃ k : Nat, k ≤ n ∧ i = .int .i64 k ∧ Hid (∀ j, j < k → xs[j]? = ys[j]?) ∧ Hid (Below w.heap.size w wr)) (fun i _ => n - (intOf i).toNat)
    case atStart => exact ⟨0, Nat.zero_le _, rfl, Lib.hid (fun j hj => by omega), Lib.hid (Below.refl _ _)⟩
    case round =>
      obtain ⟨k, hk, rfl, HJ, HB⟩ := hrel
      obtain ⟨wo, rfl⟩ : ∃ wo : World, wo = wr := ⟨_, rfl⟩
      by_cases hlt : k < n
      · obtain ⟨x, hx⟩ : ∃ x, xs[k]? = some x := ⟨_, List.getElem?_eq_getElem (by rw [← HN.out]; exact hlt)⟩
        obtain ⟨y, hy⟩ : ∃ y, ys[k]? = some y := ⟨_, List.getElem?_eq_getElem (by rw [← HM.out]; exact hlt)⟩
        obtain ⟨b, off, rfl, hb, hc⟩ := (HV.out.on HB.out).at_ hx
        obtain ⟨b', off', rfl, hb', hc'⟩ := (HU.out.on HB.out).at_ hy
        have c0 : wo.cell? ⟨b, off + k * 3, none⟩ = some (.int .u8 x.1) := by have := hc 0 (.int .u8 x.1) rfl; simpa using this
        have c1 : wo.cell? ⟨b, off + k * 3 + 1, none⟩ = some (.int .i64 x.2.1) := hc 1 (.int .i64 x.2.1) rfl
        have c2 : wo.cell? ⟨b, off + k * 3 + 2, none⟩ = some (.string x.2.2) := hc 2 (.string x.2.2) rfl
        have e0 : wo.cell? ⟨b', off' + k * 3, none⟩ = some (.int .u8 y.1) := by have := hc' 0 (.int .u8 y.1) rfl; simpa using this
        have e1 : wo.cell? ⟨b', off' + k * 3 + 1, none⟩ = some (.int .i64 y.2.1) := hc' 1 (.int .i64 y.2.1) rfl
        have e2 : wo.cell? ⟨b', off' + k * 3 + 2, none⟩ = some (.string y.2.2) := hc' 2 (.string y.2.2) rfl
        have d1 : (k : Int) < (n : Int) := by omega
        have d2 : 0 ≤ (k : Int) := by omega
        have HX := Lib.hid hx
        have HY := Lib.hid hy
        clear hc hc' hx hy
        by_cases hxy : x = y
        · have HJ2 : Hid (∀ j, j < k + 1 → xs[j]? = ys[j]?) := Lib.hid (fun j hj => by
            by_cases e : j = k
            · rw [e, HX.out, HY.out, hxy]
            · exact HJ.out j (by omega))
          have HB2 : Hid (∀ q, Below w.heap.size w (wo.drewN q)) := Lib.hid (fun q => below_drewN HB.out q)
          have q1 : ∀ z : World, (binOp .neq 59 (.agg #[.int .u8 x.1, .int .i64 x.2.1, .string x.2.2]) (.agg #[.int .u8 y.1, .int .i64 y.2.1, .string y.2.2])).run Try.prog z = .ok (.bool false) z := fun z => by
            rw [sym_neq]; rw [hxy]; simp
          clear hxy
          go_wp2_with fail
          go_quiet (fail)
          go_wp2_with fail
          go_roundw
          case rel => exact ⟨k + 1, by omega, by go_num, HJ2, Lib.hid (HB2.out _)⟩
          case measure => simp [intOf]; omega
        · have HE : Hid (∀ q, SaysT r w (.returned (.bool false)) (wo.drewN q)) := Lib.hid (fun q => by
            have e : r = false := by
              rw [← HR.out, decide_eq_false_iff_not]
              intro e
              have h1 := HX.out
              rw [e, HY.out] at h1
              exact hxy (Option.some.inj h1).symm
            exact ⟨by rw [e], below_drewN HB.out q⟩)
          have q1 : ∀ z : World, (binOp .neq 59 (.agg #[.int .u8 x.1, .int .i64 x.2.1, .string x.2.2]) (.agg #[.int .u8 y.1, .int .i64 y.2.1, .string y.2.2])).run Try.prog z = .ok (.bool true) z := fun z => by
            rw [sym_neq]; congr 2
            obtain ⟨x1, x2, x3⟩ := x
            obtain ⟨y1, y2, y3⟩ := y
            show (!(x1 == y1 && (x2 == y2 && x3.toList == y3.toList))) = true
            by_cases h1 : x1 = y1 <;> by_cases h2 : x2 = y2 <;> by_cases h3 : x3.toList = y3.toList <;> simp [h1, h2, h3]
            exact hxy (by rw [h1, h2, bytes_eq h3])
          clear hxy
          go_wp2_with fail
          go_quiet (fail)
          go_wp2_with fail
          go_ret
          exact HE.out _
      · obtain rfl : n = k := by omega
        have HE : Hid (SaysT r w (.returned (.bool true)) wo) := Lib.hid (by
          have e : r = true := by
            rw [← HR.out, decide_eq_true_eq]
            exact ext_of (by rw [← HN.out, ← HM.out]) (fun t ht => HJ.out t (by rw [HN.out]; exact ht))
          exact ⟨by rw [e], HB.out⟩)
        clear hlt hk
        go_wp2_with fail
        go_ret
        exact HE.out
  · have t1 : ((n : Int) != (m : Int)) = true := by rw [bne_iff_ne]; omega
    have t2 : ((n : Int) == (m : Int)) = false := by rw [beq_eq_false_iff_ne]; omega
    have t3 : (n != m) = true := by rw [bne_iff_ne]; exact hl
    have t4 : (n == m) = false := by rw [beq_eq_false_iff_ne]; exact hl
    have HE : Hid (SaysT r w (.returned (.bool false)) w) := Lib.hid (by
      have e : r = false := by
        rw [← HR.out, decide_eq_false_iff_not]
        intro e
        exact hl (by rw [HN.out, HM.out, e])
      exact ⟨by rw [e], Below.refl _ _⟩)
    go_enter Try.func35, Try.ntmps35
    go_wp2_with fail
    go_ret
    exact HE.out
end Go.Proofs.Ytbpjflghkkkenaa.row

/- Same. (Printed by mkZu.py.) -/
namespace Go.Proofs.Ytbpjflghkkkenaa.row
set_option maxRecDepth 100000
open Go.RowKit
open Go.Proofs.Ytbpjflghkkkenaa.ints (below_drewN)

set_option maxHeartbeats 6400000 in
theorem same_any (D : CD) (F : CF) (E : CD) (G : CF) (P Q : Nat → Prop) (w : World) (hc : InC P w D F) (hd : InC Q w E G) : Calls Try.prog 19 #[cval D F, cval E G] w (SaysW (sameB D E) w) := by
  have hbx := bx_new w hc hd 27
  obtain ⟨v, hv⟩ : ∃ v, v = (w.alloc (.cells (ccells D F) 27)).alloc (.cells (ccells E G) 27) := ⟨_, rfl⟩
  rw [← hv] at hbx
  have HBX := Lib.hid hbx
  have HVW := Lib.hid hv
  have hdef : sameB D E = (decide (D.max = E.max) && (decide (D.com.toList = E.com.toList) && (decide (D.ins = E.ins) && (decide (D.outs = E.outs) && (decide (D.bads = E.bads) && (decide (D.cons = E.cons) &&
    (decide (D.lats = E.lats) && (decide (D.gates = E.gates) && decide (D.syms = E.syms))))))))) := rfl
  have HD := Lib.hid hdef
  have HW : Hid (∀ u b, Below v.heap.size v u → sameB D E = b → SaysW (sameB D E) w (.returned (.bool b)) u) := Lib.hid (fun u b hu e => ⟨by rw [e], hbx.bel.trans (hu.mono hbx.bel.size)⟩)
  clear hc hd hbx hv hdef
  go_enter Try.func19, Try.ntmps19
  go_upto_region 1 with fail
  rw [← HVW.out]
  obtain ⟨X, hX⟩ : ∃ X, X = w.heap.size := ⟨_, rfl⟩
  have HXW := Lib.hid hX
  have HB : Hid (Below v.heap.size v v) := Lib.hid (Below.refl _ _)
  have hXw : w.heap.size = X := hX.symm
  have HBX2 : Hid (Blk v X (ccells D F) ∧ Blk v (X + 1) (ccells E G) ∧ InC P v D F ∧ InC Q v E G) := Lib.hid (by rw [hX]; exact ⟨HBX.out.x, HBX.out.y, HBX.out.i, HBX.out.j⟩)
  rw [hXw]
  clear hXw hX HBX HVW
  have k0 : v.cell? ⟨X, 0, none⟩ = some (.int .i64 D.max) := ((HBX2.out.1.on HB.out).cell 0).1
  have j0 : v.cell? ⟨X + 1, 0, none⟩ = some (.int .i64 E.max) := ((HBX2.out.2.1.on HB.out).cell 0).1
  have lX := (HBX2.out.1.on HB.out).lt
  have lY := (HBX2.out.2.1.on HB.out).lt
  by_cases e0 : D.max = E.max
  rotate_left
  · have t0 : (D.max == E.max) = false := by simpa using e0
    have HE := Lib.hid (HW.out v false HB.out (by rw [HD.out]; simp [e0]))
    clear e0
    go_wp2_with fail
    go_ret
    exact HE.out
  have t0 : (D.max == E.max) = true := by simpa using e0
  have E0 := Lib.hid e0
  clear e0
  have k1 : v.cell? ⟨X, 1, none⟩ = some (.slice F.ai D.ins.length F.ci) := (HBX2.out.1.cell 1).1
  have j1 : v.cell? ⟨X + 1, 1, none⟩ = some (.slice G.ai E.ins.length G.ci) := (HBX2.out.2.1.cell 1).1
  by_cases e1 : D.ins = E.ins
  rotate_left
  · have HNE := Lib.hid (decide_eq_false e1)
    have HV := Lib.hid e1
    clear e1
    go_wp2_with fail
    go_at_call 32; refine (equal_int _ _ D.ins E.ins P Q v (HBX2.out.2.2.1.on HB.out).i (HBX2.out.2.2.2.on HB.out).i HNE.out).mono ?_; rintro e u1 ⟨rfl, hb⟩
    replace HB := Lib.hid (HB.out.trans (hb.mono HB.out.size))
    clear hb k1 j1 lX lY k0 j0
    have HE := Lib.hid (HW.out u1 false HB.out (by rw [HD.out]; simp [HV.out]))
    go_wp2_with fail
    go_ret
    exact HE.out
  have HEQ := Lib.hid (decide_eq_true e1)
  have E1 := Lib.hid e1
  clear e1
  go_wp2_with fail
  go_at_call 32; refine (equal_int _ _ D.ins E.ins P Q v (HBX2.out.2.2.1.on HB.out).i (HBX2.out.2.2.2.on HB.out).i HEQ.out).mono ?_; rintro e u1 ⟨rfl, hb⟩
  replace HB := Lib.hid (HB.out.trans (hb.mono HB.out.size))
  clear hb k1 j1 lX lY k0 j0
  clear HEQ
  have k2 : u1.cell? ⟨X, 2, none⟩ = some (.slice F.al D.lats.length F.cl) := ((HBX2.out.1.on HB.out).cell 2).1
  have j2 : u1.cell? ⟨X + 1, 2, none⟩ = some (.slice G.al E.lats.length G.cl) := ((HBX2.out.2.1.on HB.out).cell 2).1
  have lX := (HBX2.out.1.on HB.out).lt
  have lY := (HBX2.out.2.1.on HB.out).lt
  by_cases e1 : D.lats = E.lats
  rotate_left
  · have HNE := Lib.hid (decide_eq_false e1)
    have HV := Lib.hid e1
    clear e1
    go_wp2_with fail
    go_at_call 33; refine (equal_latch _ _ D.lats E.lats P Q u1 (HBX2.out.2.2.1.on HB.out).l (HBX2.out.2.2.2.on HB.out).l HNE.out).mono ?_; rintro e u2 ⟨rfl, hb⟩
    replace HB := Lib.hid (HB.out.trans (hb.mono HB.out.size))
    clear hb k2 j2 lX lY
    have HE := Lib.hid (HW.out u2 false HB.out (by rw [HD.out]; simp [HV.out]))
    go_wp2_with fail
    go_ret
    exact HE.out
  have HEQ := Lib.hid (decide_eq_true e1)
  have E2 := Lib.hid e1
  clear e1
  go_wp2_with fail
  go_at_call 33; refine (equal_latch _ _ D.lats E.lats P Q u1 (HBX2.out.2.2.1.on HB.out).l (HBX2.out.2.2.2.on HB.out).l HEQ.out).mono ?_; rintro e u2 ⟨rfl, hb⟩
  replace HB := Lib.hid (HB.out.trans (hb.mono HB.out.size))
  clear hb k2 j2 lX lY
  clear HEQ
  have k3 : u2.cell? ⟨X, 3, none⟩ = some (.slice F.ao D.outs.length F.co) := ((HBX2.out.1.on HB.out).cell 3).1
  have j3 : u2.cell? ⟨X + 1, 3, none⟩ = some (.slice G.ao E.outs.length G.co) := ((HBX2.out.2.1.on HB.out).cell 3).1
  have lX := (HBX2.out.1.on HB.out).lt
  have lY := (HBX2.out.2.1.on HB.out).lt
  by_cases e1 : D.outs = E.outs
  rotate_left
  · have HNE := Lib.hid (decide_eq_false e1)
    have HV := Lib.hid e1
    clear e1
    go_wp2_with fail
    go_at_call 32; refine (equal_int _ _ D.outs E.outs P Q u2 (HBX2.out.2.2.1.on HB.out).o (HBX2.out.2.2.2.on HB.out).o HNE.out).mono ?_; rintro e u3 ⟨rfl, hb⟩
    replace HB := Lib.hid (HB.out.trans (hb.mono HB.out.size))
    clear hb k3 j3 lX lY
    have HE := Lib.hid (HW.out u3 false HB.out (by rw [HD.out]; simp [HV.out]))
    go_wp2_with fail
    go_ret
    exact HE.out
  have HEQ := Lib.hid (decide_eq_true e1)
  have E3 := Lib.hid e1
  clear e1
  go_wp2_with fail
  go_at_call 32; refine (equal_int _ _ D.outs E.outs P Q u2 (HBX2.out.2.2.1.on HB.out).o (HBX2.out.2.2.2.on HB.out).o HEQ.out).mono ?_; rintro e u3 ⟨rfl, hb⟩
  replace HB := Lib.hid (HB.out.trans (hb.mono HB.out.size))
  clear hb k3 j3 lX lY
  clear HEQ
  have k4 : u3.cell? ⟨X, 4, none⟩ = some (.slice F.ab D.bads.length F.cb) := ((HBX2.out.1.on HB.out).cell 4).1
  have j4 : u3.cell? ⟨X + 1, 4, none⟩ = some (.slice G.ab E.bads.length G.cb) := ((HBX2.out.2.1.on HB.out).cell 4).1
  have lX := (HBX2.out.1.on HB.out).lt
  have lY := (HBX2.out.2.1.on HB.out).lt
  by_cases e1 : D.bads = E.bads
  rotate_left
  · have HNE := Lib.hid (decide_eq_false e1)
    have HV := Lib.hid e1
    clear e1
    go_wp2_with fail
    go_at_call 32; refine (equal_int _ _ D.bads E.bads P Q u3 (HBX2.out.2.2.1.on HB.out).b (HBX2.out.2.2.2.on HB.out).b HNE.out).mono ?_; rintro e u4 ⟨rfl, hb⟩
    replace HB := Lib.hid (HB.out.trans (hb.mono HB.out.size))
    clear hb k4 j4 lX lY
    have HE := Lib.hid (HW.out u4 false HB.out (by rw [HD.out]; simp [HV.out]))
    go_wp2_with fail
    go_ret
    exact HE.out
  have HEQ := Lib.hid (decide_eq_true e1)
  have E4 := Lib.hid e1
  clear e1
  go_wp2_with fail
  go_at_call 32; refine (equal_int _ _ D.bads E.bads P Q u3 (HBX2.out.2.2.1.on HB.out).b (HBX2.out.2.2.2.on HB.out).b HEQ.out).mono ?_; rintro e u4 ⟨rfl, hb⟩
  replace HB := Lib.hid (HB.out.trans (hb.mono HB.out.size))
  clear hb k4 j4 lX lY
  clear HEQ
  have k5 : u4.cell? ⟨X, 5, none⟩ = some (.slice F.ac D.cons.length F.cc) := ((HBX2.out.1.on HB.out).cell 5).1
  have j5 : u4.cell? ⟨X + 1, 5, none⟩ = some (.slice G.ac E.cons.length G.cc) := ((HBX2.out.2.1.on HB.out).cell 5).1
  have lX := (HBX2.out.1.on HB.out).lt
  have lY := (HBX2.out.2.1.on HB.out).lt
  by_cases e1 : D.cons = E.cons
  rotate_left
  · have HNE := Lib.hid (decide_eq_false e1)
    have HV := Lib.hid e1
    clear e1
    go_wp2_with fail
    go_at_call 32; refine (equal_int _ _ D.cons E.cons P Q u4 (HBX2.out.2.2.1.on HB.out).c (HBX2.out.2.2.2.on HB.out).c HNE.out).mono ?_; rintro e u5 ⟨rfl, hb⟩
    replace HB := Lib.hid (HB.out.trans (hb.mono HB.out.size))
    clear hb k5 j5 lX lY
    have HE := Lib.hid (HW.out u5 false HB.out (by rw [HD.out]; simp [HV.out]))
    go_wp2_with fail
    go_ret
    exact HE.out
  have HEQ := Lib.hid (decide_eq_true e1)
  have E5 := Lib.hid e1
  clear e1
  go_wp2_with fail
  go_at_call 32; refine (equal_int _ _ D.cons E.cons P Q u4 (HBX2.out.2.2.1.on HB.out).c (HBX2.out.2.2.2.on HB.out).c HEQ.out).mono ?_; rintro e u5 ⟨rfl, hb⟩
  replace HB := Lib.hid (HB.out.trans (hb.mono HB.out.size))
  clear hb k5 j5 lX lY
  clear HEQ
  have k6 : u5.cell? ⟨X, 6, none⟩ = some (.slice F.ag D.gates.length F.cg) := ((HBX2.out.1.on HB.out).cell 6).1
  have j6 : u5.cell? ⟨X + 1, 6, none⟩ = some (.slice G.ag E.gates.length G.cg) := ((HBX2.out.2.1.on HB.out).cell 6).1
  have lX := (HBX2.out.1.on HB.out).lt
  have lY := (HBX2.out.2.1.on HB.out).lt
  by_cases e1 : D.gates = E.gates
  rotate_left
  · have HNE := Lib.hid (decide_eq_false e1)
    have HV := Lib.hid e1
    clear e1
    go_wp2_with fail
    go_at_call 34; refine (equal_gate _ _ D.gates E.gates P Q u5 (HBX2.out.2.2.1.on HB.out).g (HBX2.out.2.2.2.on HB.out).g HNE.out).mono ?_; rintro e u6 ⟨rfl, hb⟩
    replace HB := Lib.hid (HB.out.trans (hb.mono HB.out.size))
    clear hb k6 j6 lX lY
    have HE := Lib.hid (HW.out u6 false HB.out (by rw [HD.out]; simp [HV.out]))
    go_wp2_with fail
    go_ret
    exact HE.out
  have HEQ := Lib.hid (decide_eq_true e1)
  have E6 := Lib.hid e1
  clear e1
  go_wp2_with fail
  go_at_call 34; refine (equal_gate _ _ D.gates E.gates P Q u5 (HBX2.out.2.2.1.on HB.out).g (HBX2.out.2.2.2.on HB.out).g HEQ.out).mono ?_; rintro e u6 ⟨rfl, hb⟩
  replace HB := Lib.hid (HB.out.trans (hb.mono HB.out.size))
  clear hb k6 j6 lX lY
  clear HEQ
  have k7 : u6.cell? ⟨X, 7, none⟩ = some (.slice F.as_ D.syms.length F.cs) := ((HBX2.out.1.on HB.out).cell 7).1
  have j7 : u6.cell? ⟨X + 1, 7, none⟩ = some (.slice G.as_ E.syms.length G.cs) := ((HBX2.out.2.1.on HB.out).cell 7).1
  have lX := (HBX2.out.1.on HB.out).lt
  have lY := (HBX2.out.2.1.on HB.out).lt
  by_cases e1 : D.syms = E.syms
  rotate_left
  · have HNE := Lib.hid (decide_eq_false e1)
    have HV := Lib.hid e1
    clear e1
    go_wp2_with fail
    go_at_call 35; refine (equal_sym _ _ D.syms E.syms P Q u6 (HBX2.out.2.2.1.on HB.out).s (HBX2.out.2.2.2.on HB.out).s HNE.out).mono ?_; rintro e u7 ⟨rfl, hb⟩
    replace HB := Lib.hid (HB.out.trans (hb.mono HB.out.size))
    clear hb k7 j7 lX lY
    have HE := Lib.hid (HW.out u7 false HB.out (by rw [HD.out]; simp [HV.out]))
    go_wp2_with fail
    go_ret
    exact HE.out
  have HEQ := Lib.hid (decide_eq_true e1)
  have E7 := Lib.hid e1
  clear e1
  go_wp2_with fail
  go_at_call 35; refine (equal_sym _ _ D.syms E.syms P Q u6 (HBX2.out.2.2.1.on HB.out).s (HBX2.out.2.2.2.on HB.out).s HEQ.out).mono ?_; rintro e u7 ⟨rfl, hb⟩
  replace HB := Lib.hid (HB.out.trans (hb.mono HB.out.size))
  clear hb k7 j7 lX lY
  clear HEQ
  have k8 : u7.cell? ⟨X, 8, none⟩ = some (.string D.com) := ((HBX2.out.1.on HB.out).cell 8).1
  have j8 : u7.cell? ⟨X + 1, 8, none⟩ = some (.string E.com) := ((HBX2.out.2.1.on HB.out).cell 8).1
  have lX := (HBX2.out.1.on HB.out).lt
  have lY := (HBX2.out.2.1.on HB.out).lt
  by_cases e1 : D.com.toList = E.com.toList
  · have t1 : (D.com.toList == E.com.toList) = true := by simpa using e1
    have HE := Lib.hid (HW.out u7 true HB.out (by rw [HD.out]; simp [E0.out, E1.out, E2.out, E3.out, E4.out, E5.out, E6.out, E7.out, e1]))
    clear e1
    go_wp2_with fail
    go_ret
    exact HE.out
  · have t1 : (D.com.toList == E.com.toList) = false := by simpa using e1
    have HE := Lib.hid (HW.out u7 false HB.out (by rw [HD.out]; simp [e1]))
    clear e1
    go_wp2_with fail
    go_ret
    exact HE.out
end Go.Proofs.Ytbpjflghkkkenaa.row
