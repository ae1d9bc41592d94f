import Derived.Test.YtbpjflghkkkenaaMg23
import Derived.Test.YtbpjflghkkkenaaMg24
import Derived.Test.YtbpjflghkkkenaaMg25
/- The walk of CircNets, over what the landed code is to answer. (Printed by mkN21.py.) -/
namespace Go.Proofs.Ytbpjflghkkkenaa.row
open Go.RowKit
open Go.Proofs.Ytbpjflghkkkenaa.mem (own_on addr_add)
open Go.Proofs.Ytbpjflghkkkenaa.ints (Ints ints_of_owned below_drewN)
open Go.Proofs.Ytbpjflghkkkenaa.aig (KNds GoodN chk okB_yes okAt)

theorem chk_good {ns : List (Int × Int)} (h : GoodN ns) : chk ns = 0 := by
  unfold chk
  rw [okB_yes (fun i hi => ?_)]; · rfl
  have := h i hi
  unfold okAt
  by_cases h0 : (ns.getD i (0, 0)).1 < 0
  · rw [decide_eq_true h0]; rfl
  · obtain ⟨g1, g2, g3⟩ := this (by omega)
    rw [decide_eq_true g1, decide_eq_true g2, decide_eq_true g3]; simp
theorem node_neq (a b x y : Int) (w : World) : (binOp .neq 42 (.agg #[.int .i64 a, .int .i64 b]) (.agg #[.int .i64 x, .int .i64 y])).run Try.prog w = .ok (.bool (!(a == x && b == y))) w := by
  have u3 := Try.underlying3
  have a3 := Try.isAgg3
  have z3 := Try.sizeOf3
  have hS : Try.prog.underlying 42 = some (.struct (Try.prog.fieldsOf 42)) := by kernel_rfl
  have hp : Try.prog.stoodInHeld 42 = false := by kernel_rfl
  rw [run_neq_struct, show (10000 : Nat) = 9999 + 1 from rfl, run_equalIn_agg w 9999 42 _ _ hS hp]
  simp only [Program.fieldsOf, Try.underlying42]
  go_simp
  by_cases h1 : a = x <;> by_cases h2 : b = y <;> simp [h1, h2]
theorem small_of {D : CD} {m : Int} {b : Bool} (h : smallB D m = b) (F : CF) (P : Nat → Prop) (w : World) (hc : InC P w D F) (hf : Fits D) (hm : m ≤ 1000) :
    Calls Try.prog 11 #[cval D F, .int .i64 m] w (SaysW b w) := by
  have := small_any D F P m w hc hf hm; rw [h] at this; exact this
theorem same_self (D : CD) : sameB D D = true := by unfold sameB; simp
/-- two circuits in memory, boxed, of the same values -/
structure Two (X Y : Nat) (P Q : Nat → Prop) (D : CD) (F F2 : CF) (w : World) : Prop where
  x : Blk w X (ccells D F)
  y : Blk w Y (ccells D F2)
  i : InC P w D F
  j : InC Q w D F2
theorem Two.on {X Y : Nat} {P Q : Nat → Prop} {D : CD} {F F2 : CF} {w w' : World} (h : Two X Y P Q D F F2 w) (hb : Below w.heap.size w w') : Two X Y P Q D F F2 w' := ⟨h.x.on hb, h.y.on hb, h.i.on hb, h.j.on hb⟩
theorem two_cells {X Y : Nat} {P Q : Nat → Prop} {D : CD} {F F2 : CF} {w : World} (h : Two X Y P Q D F F2 w) : w.cell? ⟨X, 0, none⟩ = some (.int .i64 D.max) ∧ w.cell? ⟨X, 1, none⟩ = some (.slice F.ai D.ins.length F.ci) ∧ w.cell? ⟨X, 2, none⟩ = some (.slice F.al D.lats.length F.cl) ∧ w.cell? ⟨X, 3, none⟩ = some (.slice F.ao D.outs.length F.co) ∧ w.cell? ⟨X, 4, none⟩ = some (.slice F.ab D.bads.length F.cb) ∧ w.cell? ⟨X, 5, none⟩ = some (.slice F.ac D.cons.length F.cc) ∧ w.cell? ⟨X, 6, none⟩ = some (.slice F.ag D.gates.length F.cg) ∧ w.cell? ⟨X, 7, none⟩ = some (.slice F.as_ D.syms.length F.cs) ∧ w.cell? ⟨X, 8, none⟩ = some (.string D.com) ∧ w.cell? ⟨Y, 0, none⟩ = some (.int .i64 D.max) ∧ w.cell? ⟨Y, 1, none⟩ = some (.slice F2.ai D.ins.length F2.ci) ∧ w.cell? ⟨Y, 2, none⟩ = some (.slice F2.al D.lats.length F2.cl) ∧ w.cell? ⟨Y, 3, none⟩ = some (.slice F2.ao D.outs.length F2.co) ∧ w.cell? ⟨Y, 4, none⟩ = some (.slice F2.ab D.bads.length F2.cb) ∧ w.cell? ⟨Y, 5, none⟩ = some (.slice F2.ac D.cons.length F2.cc) ∧ w.cell? ⟨Y, 6, none⟩ = some (.slice F2.ag D.gates.length F2.cg) ∧ w.cell? ⟨Y, 7, none⟩ = some (.slice F2.as_ D.syms.length F2.cs) ∧ w.cell? ⟨Y, 8, none⟩ = some (.string D.com) :=
  ⟨(h.x.cell 0).1, (h.x.cell 1).1, (h.x.cell 2).1, (h.x.cell 3).1, (h.x.cell 4).1, (h.x.cell 5).1, (h.x.cell 6).1, (h.x.cell 7).1, (h.x.cell 8).1, (h.y.cell 0).1, (h.y.cell 1).1, (h.y.cell 2).1, (h.y.cell 3).1, (h.y.cell 4).1, (h.y.cell 5).1, (h.y.cell 6).1, (h.y.cell 7).1, (h.y.cell 8).1⟩
theorem check7_of {P : Nat → Prop} {v : Value} {ns : List (Int × Int)} {z : Int} (h : chk ns = z) (w : World) (hv : KNds P w v ns) (hn : ns.length ≤ 1000) :
    Calls Try.prog 18 #[v] w fun e w' => e = .returned (.int .i64 z) ∧ w = w' := by
  have := aig.refCheck_any P v ns w hv hn; rw [h] at this; exact this
set_option maxRecDepth 100000 in
set_option maxHeartbeats 6400000 in
theorem nets11_any (K : CircAll) (D : CD) (F : CF) (w : World) (hc : InC (NewR w) w D F) (hf : Fits D) :
    Calls Try.prog 4 #[cval D F] w (SaysW true w) := by
  have HC := Lib.hid hc
  have HF := Lib.hid hf
  have HK := Lib.hid K
  have HV := Lib.hid (lives11_any K)
  clear hc hf K
  go_enter Try.func4, Try.ntmps4
  go_upto_region 1 with fail
  have X0 := blk_new w (ccells D F) 27
  have B0 : Below w.heap.size w (w.alloc (.cells (ccells D F) 27)) := (Below.refl _ _).alloc (Nat.le_refl _) _
  have I0 := HC.out.on B0
  clear HC
  generalize w.alloc (.cells (ccells D F) 27) = v at *
  obtain ⟨X, hX⟩ : ∃ X, X = w.heap.size := ⟨_, rfl⟩
  have HX := Lib.hid X0
  have HB := Lib.hid B0
  have HI := Lib.hid I0
  rw [← hX] at HX X0 ⊢
  have c0 := (X0.cell 0).1
  have c1 := (X0.cell 1).1
  have c2 := (X0.cell 2).1
  have c3 := (X0.cell 3).1
  have c4 := (X0.cell 4).1
  have c5 := (X0.cell 5).1
  have c6 := (X0.cell 6).1
  have c7 := (X0.cell 7).1
  have c8 := (X0.cell 8).1
  simp at c0 c1 c2 c3 c4 c5 c6 c7 c8
  have hXl := X0.lt
  clear X0 B0 I0 hX
  cases hfw : smallB D 40 with
  | false =>
    have HFW := Lib.hid hfw
    clear hfw
    go_wp2_with fail
    go_at_call 11; refine (small_of HFW.out F _ _ HI.out HF.out (by omega)).mono ?_; rintro e w1 ⟨rfl, b1⟩
    have HB1 := Lib.hid (HB.out.trans (b1.mono HB.out.size))
    clear b1
    go_wp2_with fail
    go_at_call 7; refine (HV.out _).mono ?_; rintro e w2 ⟨rfl, b2⟩
    have HT : Hid (SaysW true w (.returned (.bool true)) w2) := Lib.hid ⟨rfl, HB1.out.trans (b2.mono HB1.out.size)⟩
    clear b2
    go_wp2_with fail
    go_ret
    exact HT.out
  | true =>
    have HFW := Lib.hid hfw
    have hsm : fewB D 40 = true ∧ checkF D = 0 := by
      unfold smallB at hfw
      simp only [Bool.and_eq_true, decide_eq_true_eq] at hfw
      exact ⟨hfw.1, hfw.2.2⟩
    have HL := Lib.hid (few_lens hsm.1 (by omega))
    have HG := Lib.hid (goodC hsm.2)
    have HG0 := Lib.hid hsm.2
    have HN1 : Hid (GoodN (netF D).1 ∧ (netF D).1.length ≤ 200) := Lib.hid (by
      have h := ord_all HG.out (orderL D.gates).length (Nat.le_refl _)
      refine ⟨h.net.good, ?_⟩
      have e : (netF D).1.length = D.ins.length + D.lats.length + (orderL D.gates).length := h.len
      rw [e, HG.out.full]
      have f := hsm.1
      unfold fewB at f
      simp only [Bool.and_eq_true, decide_eq_true_eq] at f
      omega)
    clear hfw hsm
    go_wp2_with fail
    go_at_call 11; refine (small_of HFW.out F _ _ HI.out HF.out (by omega)).mono ?_; rintro e w1 ⟨rfl, b1⟩
    have HB1 := Lib.hid (HB.out.trans (b1.mono HB.out.size))
    have HI1 := Lib.hid (HI.out.on b1)
    have HX1 := Lib.hid (HX.out.on b1)
    clear c0 c1 c2 c3 c4 c5 c6 c7 c8
    have c0 := (HX1.out.cell 0).1
    have c1 := (HX1.out.cell 1).1
    have c2 := (HX1.out.cell 2).1
    have c3 := (HX1.out.cell 3).1
    have c4 := (HX1.out.cell 4).1
    have c5 := (HX1.out.cell 5).1
    have c6 := (HX1.out.cell 6).1
    have c7 := (HX1.out.cell 7).1
    have c8 := (HX1.out.cell 8).1
    simp at c0 c1 c2 c3 c4 c5 c6 c7 c8
    clear b1
    go_wp2_with fail
    go_at_call 9; refine (own_any D F _ HI1.out.any HL.out).mono ?_; rintro e w2 ⟨F2, rfl, ro, bo⟩
    have Y0 := blk_new w2 (ccells D F2) 27
    have B2 : Below w2.heap.size w2 (w2.alloc (.cells (ccells D F2) 27)) := (Below.refl _ _).alloc (Nat.le_refl _) _
    have b12 : Below w1.heap.size w1 (w2.alloc (.cells (ccells D F2) 27)) := bo.trans (B2.mono bo.size)
    have HT0 : Hid (Two X w2.heap.size (NewR w) (fun _ => False) D F F2 (w2.alloc (.cells (ccells D F2) 27))) := Lib.hid ⟨HX1.out.on b12, Y0, HI1.out.on b12, (ro.inC (fun k h => h.elim)).on B2⟩
    have HB3 := Lib.hid (HB1.out.trans (b12.mono HB1.out.size))
    clear ro bo B2 Y0 b12 c0 c1 c2 c3 c4 c5 c6 c7 c8
    go_upto_region 4 with fail
    obtain ⟨v3, hv3⟩ : ∃ v3, v3 = w2.alloc (.cells #[.int .i64 D.max, .slice F2.ai D.ins.length F2.ci, .slice F2.al D.lats.length F2.cl, .slice F2.ao D.outs.length F2.co, .slice F2.ab D.bads.length F2.cb, .slice F2.ac D.cons.length F2.cc, .slice F2.ag D.gates.length F2.cg, .slice F2.as_ D.syms.length F2.cs, .string D.com] 27) := ⟨_, rfl⟩
    have e3 : w2.alloc (.cells (ccells D F2) 27) = v3 := hv3.symm
    obtain ⟨Y, hY⟩ : ∃ Y, Y = w2.heap.size := ⟨_, rfl⟩
    rw [e3, ← hY] at HT0
    rw [e3] at HB3
    rw [← hv3, ← hY]
    clear hv3 e3 hY
    obtain ⟨k0, k1, k2, k3, k4, k5, k6, k7, k8, k9, k10, k11, k12, k13, k14, k15, k16, k17⟩ := two_cells HT0.out
    go_wp2_with fail
    go_at_call 12; refine (HK.out.net D F2 (fun _ => False) _ HT0.out.j HF.out HL.out HG0.out).mono ?_; rintro e w4 ⟨nv, av, rfl, hk4, hi4, b4⟩
    clear k0 k1 k2 k3 k4 k5 k6 k7 k8 k9 k10 k11 k12 k13 k14 k15 k16 k17
    have HT4 := Lib.hid (HT0.out.on b4)
    have HB4 := Lib.hid (HB3.out.trans (b4.mono HB3.out.size))
    obtain ⟨k0, k1, k2, k3, k4, k5, k6, k7, k8, k9, k10, k11, k12, k13, k14, k15, k16, k17⟩ := two_cells HT4.out
    have HKN := Lib.hid hk4
    have HAV := Lib.hid hi4
    clear b4 hk4 hi4 HT0
    go_wp2_with fail
    go_at_call 13; refine (refNet_any D F (NewR w) _ HT4.out.i HL.out HG.out).mono ?_; rintro e w5 ⟨mv, tv, rfl, hk5, hi5, b5⟩
    clear k0 k1 k2 k3 k4 k5 k6 k7 k8 k9 k10 k11 k12 k13 k14 k15 k16 k17
    have HT5 := Lib.hid (HT4.out.on b5)
    have HB5 := Lib.hid (HB4.out.trans (b5.mono HB4.out.size))
    have HKN5 := Lib.hid (HKN.out.on b5)
    have HAV5 := Lib.hid (HAV.out.on b5)
    have HKM := Lib.hid hk5
    have HTV := Lib.hid hi5
    clear b5 hk5 hi5 HT4 HKN HAV
    obtain ⟨N, hN⟩ : ∃ N, N = (netF D).1 := ⟨_, rfl⟩
    rw [← hN] at HKN5 HKM HN1
    obtain ⟨na, ncap, rfl, l1, l2⟩ := HKN5.out.form
    obtain ⟨ma, mcap, rfl, l3, l4⟩ := HKM.out.form
    unfold maxLen at l2 l4
    have HCK : Hid (chk N = 0) := Lib.hid (chk_good HN1.out.1)
    have hn1 := HN1.out.2
    have HNL : Hid (N.length ≤ 1000) := Lib.hid (by omega)
    obtain ⟨n, hn⟩ : ∃ n, n = N.length := ⟨_, rfl⟩
    rw [← hn] at HKN5 HKM l1 l3 hn1 ⊢
    have hnn : ((n : Int) != (n : Int)) = false := by simp
    have hnn2 : (n != n) = false := by simp
    clear hN hn
    have KC : Hid (∀ u, Below w5.heap.size w5 u → u.cell? ⟨X, 0, none⟩ = some (.int .i64 D.max) ∧ u.cell? ⟨X, 1, none⟩ = some (.slice F.ai D.ins.length F.ci) ∧ u.cell? ⟨X, 2, none⟩ = some (.slice F.al D.lats.length F.cl) ∧ u.cell? ⟨X, 3, none⟩ = some (.slice F.ao D.outs.length F.co) ∧ u.cell? ⟨X, 4, none⟩ = some (.slice F.ab D.bads.length F.cb) ∧ u.cell? ⟨X, 5, none⟩ = some (.slice F.ac D.cons.length F.cc) ∧ u.cell? ⟨X, 6, none⟩ = some (.slice F.ag D.gates.length F.cg) ∧ u.cell? ⟨X, 7, none⟩ = some (.slice F.as_ D.syms.length F.cs) ∧ u.cell? ⟨X, 8, none⟩ = some (.string D.com) ∧ u.cell? ⟨Y, 0, none⟩ = some (.int .i64 D.max) ∧ u.cell? ⟨Y, 1, none⟩ = some (.slice F2.ai D.ins.length F2.ci) ∧ u.cell? ⟨Y, 2, none⟩ = some (.slice F2.al D.lats.length F2.cl) ∧ u.cell? ⟨Y, 3, none⟩ = some (.slice F2.ao D.outs.length F2.co) ∧ u.cell? ⟨Y, 4, none⟩ = some (.slice F2.ab D.bads.length F2.cb) ∧ u.cell? ⟨Y, 5, none⟩ = some (.slice F2.ac D.cons.length F2.cc) ∧ u.cell? ⟨Y, 6, none⟩ = some (.slice F2.ag D.gates.length F2.cg) ∧ u.cell? ⟨Y, 7, none⟩ = some (.slice F2.as_ D.syms.length F2.cs) ∧ u.cell? ⟨Y, 8, none⟩ = some (.string D.com)) := Lib.hid (fun u hu => two_cells (HT5.out.on hu))
    have hd1 : Below w5.heap.size w5 (w5.drewN 1) := below_drewN (Below.refl _ _) 1
    obtain ⟨k0, k1, k2, k3, k4, k5, k6, k7, k8, k9, k10, k11, k12, k13, k14, k15, k16, k17⟩ := KC.out _ hd1
    go_upto_region 6 with fail
    go_region_held3 (fun w' => w'.cell? ⟨X, 0, none⟩ = some (.int .i64 D.max) ∧ w'.cell? ⟨X, 1, none⟩ = some (.slice F.ai D.ins.length F.ci) ∧ w'.cell? ⟨X, 2, none⟩ = some (.slice F.al D.lats.length F.cl) ∧ w'.cell? ⟨X, 3, none⟩ = some (.slice F.ao D.outs.length F.co) ∧ w'.cell? ⟨X, 4, none⟩ = some (.slice F.ab D.bads.length F.cb) ∧ w'.cell? ⟨X, 5, none⟩ = some (.slice F.ac D.cons.length F.cc) ∧ w'.cell? ⟨X, 6, none⟩ = some (.slice F.ag D.gates.length F.cg) ∧ w'.cell? ⟨X, 7, none⟩ = some (.slice F.as_ D.syms.length F.cs) ∧ w'.cell? ⟨X, 8, none⟩ = some (.string D.com) ∧ w'.cell? ⟨Y, 0, none⟩ = some (.int .i64 D.max) ∧ w'.cell? ⟨Y, 1, none⟩ = some (.slice F2.ai D.ins.length F2.ci) ∧ w'.cell? ⟨Y, 2, none⟩ = some (.slice F2.al D.lats.length F2.cl) ∧ w'.cell? ⟨Y, 3, none⟩ = some (.slice F2.ao D.outs.length F2.co) ∧ w'.cell? ⟨Y, 4, none⟩ = some (.slice F2.ab D.bads.length F2.cb) ∧ w'.cell? ⟨Y, 5, none⟩ = some (.slice F2.ac D.cons.length F2.cc) ∧ w'.cell? ⟨Y, 6, none⟩ = some (.slice F2.ag D.gates.length F2.cg) ∧ w'.cell? ⟨Y, 7, none⟩ = some (.slice F2.as_ D.syms.length F2.cs) ∧ w'.cell? ⟨Y, 8, none⟩ = some (.string D.com))
      (first | (exact KC.out _ hb6) | (exact KC.out _ hb5) | (exact KC.out _ hb4) | (exact KC.out _ hb3) | (exact KC.out _ hb2) | (exact KC.out _ hd1) | go_keep)
      (first | (go_at_call 15; refine (HK.out.order D F2 (fun _ => False) _ (HT5.out.on hd1).j HF.out HL.out HG0.out).mono ?_; rintro e x2 ⟨u2, rfl, t2, b2⟩; have hb2 := hd1.trans (b2.mono hd1.size)) | (go_at_call 16; refine (refOrder_any D F (NewR w) _ (HT5.out.on hb2).i HL.out.g (lits_of HG.out)).mono ?_; rintro e x3 ⟨u3, rfl, t3, b3⟩; have hb3 := hb2.trans (b3.mono hb2.size)) | (go_at_call 14; refine (refInts_of (b := true) (decide_eq_true rfl) _ (HAV5.out.on hb4) (HTV.out.on hb4)).mono ?_; rintro e x5 ⟨rfl, b5⟩; have hb5 := hb4.trans (b5.mono hb4.size)) | (go_at_call 14; refine (refInts_of (b := true) (decide_eq_true rfl) _ (t2.on b3) (ints_of_owned t3)).mono ?_; rintro e x4 ⟨rfl, b4⟩; have hb4 := hb3.trans (b4.mono hb3.size)) | (go_at_call 17; refine (refSame_any D F D F2 (NewR w) (fun _ => False) _ (HT5.out.on hb5).i (HT5.out.on hb5).j HL.out).mono ?_; rw [same_self]; rintro e x6 ⟨rfl, b6⟩; have hb6 := hb5.trans (b6.mono hb5.size)))
    have HB6 := Lib.hid hb6
    clear k0 k1 k2 k3 k4 k5 k6 k7 k8 k9 k10 k11 k12 k13 k14 k15 k16 k17 t2 t3 b2 b3 b4 b5 b6 hd1 hb2 hb3 hb4 hb5 hb6
    go_wp2_with fail
    go_loopw [8] (fun i wr => ∃ k : Nat, k ≤ n ∧ i = .int .i64 k ∧ Hid (Below w5.heap.size w5 wr)) (fun i _ => n - (intOf i).toNat)
    case atStart => exact ⟨0, Nat.zero_le _, rfl, HB6⟩
    case round =>
      clear HB6
      obtain ⟨k, hk, rfl, HW⟩ := hrel
      obtain ⟨wo, rfl⟩ : ∃ wo : World, wo = wr := ⟨_, rfl⟩
      by_cases hlt : k < n
      · obtain ⟨b, off, rfl, -, e1, e2⟩ := (HKN5.out.on HW.out).at_ hlt
        obtain ⟨b', off', rfl, -, e3, e4⟩ := (HKM.out.on HW.out).at_ hlt
        obtain ⟨p, hp⟩ : ∃ p, p = (N.getD k (0, 0)).1 := ⟨_, rfl⟩
        obtain ⟨q, hq⟩ : ∃ q, q = (N.getD k (0, 0)).2 := ⟨_, rfl⟩
        rw [← hp] at e1 e3
        rw [← hq] at e2 e4
        have hne : ∀ u : World, (binOp .neq 42 (.agg #[.int .i64 p, .int .i64 q]) (.agg #[.int .i64 p, .int .i64 q])).run Try.prog u = .ok (.bool false) u := fun u => by rw [node_neq]; simp
        have d1 : (k : Int) < (n : Int) := by omega
        have d2 : 0 ≤ (k : Int) := by omega
        clear hp hq
        go_wp2_with fail
        go_quiet (fail)
        go_wp2_with fail
        go_roundw
        case rel => exact ⟨k + 1, by omega, by go_num, Lib.hid (below_drewN HW.out _)⟩
        case measure => simp [intOf]; omega
      · have d1 : decide ((k : Int) < (n : Int)) = false := by simp; omega
        have d2 : decide (k < n) = false := by simp; omega
        have hk3 := HKN5.out.on HW.out
        clear hlt
        go_wp2_with fail
        go_at_call 18; refine (check7_of HCK.out _ hk3 HNL.out).mono ?_; rintro e w' ⟨rfl, rfl⟩
        go_wp2_with fail
        go_at_call 7; refine (HV.out _).mono ?_; rintro e w7 ⟨rfl, b7⟩
        have HT : Hid (SaysW true w (.returned (.bool true)) w7) := Lib.hid ⟨rfl, HB5.out.trans ((HW.out.trans (b7.mono HW.out.size)).mono HB5.out.size)⟩
        clear b7
        go_wp2_with fail
        go_ret
        exact HT.out
end Go.Proofs.Ytbpjflghkkkenaa.row

/- The walk of CircSame, over what the landed code is to answer. (Printed by mkN22.py.) -/
namespace Go.Proofs.Ytbpjflghkkkenaa.row
open Go.RowKit
open Go.Proofs.Ytbpjflghkkkenaa.mem (own_on addr_add)
open Go.Proofs.Ytbpjflghkkkenaa.ints (Ints ints_of_owned below_drewN)

/-- a list that can be written -/
def Liv (B Y : Nat) (w : World) (a : Option Addr) (n sz : Nat) : Prop := 0 < n → ∃ g cs, a = some ⟨g, 0, none⟩ ∧ B ≤ g ∧ g < Y ∧ Blk w g cs ∧ n * sz ≤ cs.size
theorem liv_own {B Y : Nat} {w : World} {a : Option Addr} {n c sz : Nat} {e : TypeId} {xs : List Value} (h : w.ownsRow B e sz (.slice a n c) n xs) (hY : w.heap.size ≤ Y) : Liv B Y w a n sz := by
  intro hn
  rcases h.2 with ⟨-, h0⟩ | ⟨g, cap, cur, hv, hb, hg, h1, -, h2, -⟩
  · omega
  · obtain ⟨rfl, -, -⟩ := Value.slice.inj hv
    refine ⟨g, cur, rfl, hb, Nat.lt_of_lt_of_le (Array.getElem?_eq_some_iff.1 hg).1 hY, ⟨e, hg⟩, ?_⟩
    rw [h2]; exact Nat.mul_le_mul_right _ h1
theorem Liv.on {B Y : Nat} {w w' : World} {a : Option Addr} {n sz : Nat} (h : Liv B Y w a n sz) (hb : Below w.heap.size w w') : Liv B Y w' a n sz := fun hn => by
  obtain ⟨g, cs, h1, h2, h3, h4, h5⟩ := h hn
  exact ⟨g, cs, h1, h2, h3, h4.on hb, h5⟩
theorem Liv.put {B Y g j : Nat} {w : World} {a : Option Addr} {n sz : Nat} (h : Liv B Y w a n sz) (v : Value) : Liv B Y (w.setCell ⟨g, j, none⟩ v) a n sz := fun hn => by
  obtain ⟨x, cs, h1, h2, h3, h4, h5⟩ := h hn
  by_cases e : x = g
  · subst e
    exact ⟨x, _, h1, h2, h3, h4.put j v, by rw [Array.size_setIfInBounds]; exact h5⟩
  · exact ⟨x, cs, h1, h2, h3, h4.other e v, h5⟩
/-- while lists of the copy are written -/
structure Fin4 (W : World) (B Y : Nat) (D : CD) (F : CF) (w0 w : World) : Prop where
  bel : Below W.heap.size W w
  ge : W.heap.size ≤ B
  size : w0.heap.size ≤ w.heap.size
  blk : ∀ k, k < w0.heap.size → ¬ (B ≤ k ∧ k < Y) → w.heap[k]? = w0.heap[k]?
  i : Liv B Y w F.ai D.ins.length 1
  l : Liv B Y w F.al D.lats.length 3
  g : Liv B Y w F.ag D.gates.length 3
  b : Liv B Y w F.ab D.bads.length 1
theorem Fin4.put {W w0 w : World} {B Y : Nat} {D : CD} {F : CF} (h : Fin4 W B Y D F w0 w) {g j : Nat} (h1 : B ≤ g) (h2 : g < Y) (v : Value) : Fin4 W B Y D F w0 (w.setCell ⟨g, j, none⟩ v) :=
  ⟨h.bel.setCell (p := ⟨g, j, none⟩) (Nat.le_trans h.ge h1) _, h.ge, by have := h.size; simpa using this, fun k hk hn => (Below.heap_setCell w ⟨g, j, none⟩ v k (show k ≠ g from fun e => hn (e ▸ ⟨h1, h2⟩))).trans (h.blk k hk hn), h.i.put v, h.l.put v, h.g.put v, h.b.put v⟩
theorem Fin4.box {W w0 w : World} {B Y X : Nat} {D : CD} {F : CF} {cs : Array Value} (h : Fin4 W B Y D F w0 w) (hx : Blk w0 X cs) (hn : ¬ (B ≤ X ∧ X < Y)) : Blk w X cs := by
  have hl := hx.lt
  obtain ⟨t, hx⟩ := hx
  exact ⟨t, (h.blk X hl hn).trans hx⟩
/-- the cell that is to be written -/
theorem Blk.has {w : World} {X j : Nat} {cs : Array Value} (h : Blk w X cs) (hj : j < cs.size) : ∃ u, w.cell? ⟨X, j, none⟩ = some u ∧ w.frozen? ⟨X, j, none⟩ = false :=
  ⟨cs[j], (h.cell j).1.trans (Array.getElem?_eq_getElem hj), (h.cell j).2⟩
theorem same_sym (D : CD) : sameB D D = true := same_self D
set_option maxRecDepth 100000 in
set_option maxHeartbeats 6400000 in
theorem sames11_any (K : CircAll) (D : CD) (F : CF) (E : CD) (G : CF) (w : World) (hc : InC (NewR w) w D F) (hf : Fits D) (hd : InC (NewR w) w E G) (hg : Fits E) :
    Calls Try.prog 5 #[cval D F, cval E G] w (SaysW true w) := by
  have HC := Lib.hid hc
  have HE := Lib.hid hd
  have HF := Lib.hid hf
  have HG := Lib.hid hg
  have HK := Lib.hid K
  have HV := Lib.hid (lives11_any K)
  clear hc hf hd hg K
  go_enter Try.func5, Try.ntmps5
  go_upto_region 1 with fail
  have HX0 := Lib.hid (bx_new w HC.out HE.out 27)
  clear HC HE
  generalize (w.alloc (.cells (ccells D F) 27)).alloc (.cells (ccells E G) 27) = v at *
  have KC : Hid (∀ u, Below v.heap.size v u → u.cell? ⟨w.heap.size, 0, none⟩ = some (.int .i64 D.max) ∧ u.cell? ⟨w.heap.size, 1, none⟩ = some (.slice F.ai D.ins.length F.ci) ∧ u.cell? ⟨w.heap.size, 2, none⟩ = some (.slice F.al D.lats.length F.cl) ∧ u.cell? ⟨w.heap.size, 3, none⟩ = some (.slice F.ao D.outs.length F.co) ∧ u.cell? ⟨w.heap.size, 4, none⟩ = some (.slice F.ab D.bads.length F.cb) ∧ u.cell? ⟨w.heap.size, 5, none⟩ = some (.slice F.ac D.cons.length F.cc) ∧ u.cell? ⟨w.heap.size, 6, none⟩ = some (.slice F.ag D.gates.length F.cg) ∧ u.cell? ⟨w.heap.size, 7, none⟩ = some (.slice F.as_ D.syms.length F.cs) ∧ u.cell? ⟨w.heap.size, 8, none⟩ = some (.string D.com) ∧ u.cell? ⟨w.heap.size + 1, 0, none⟩ = some (.int .i64 E.max) ∧ u.cell? ⟨w.heap.size + 1, 1, none⟩ = some (.slice G.ai E.ins.length G.ci) ∧ u.cell? ⟨w.heap.size + 1, 2, none⟩ = some (.slice G.al E.lats.length G.cl) ∧ u.cell? ⟨w.heap.size + 1, 3, none⟩ = some (.slice G.ao E.outs.length G.co) ∧ u.cell? ⟨w.heap.size + 1, 4, none⟩ = some (.slice G.ab E.bads.length G.cb) ∧ u.cell? ⟨w.heap.size + 1, 5, none⟩ = some (.slice G.ac E.cons.length G.cc) ∧ u.cell? ⟨w.heap.size + 1, 6, none⟩ = some (.slice G.ag E.gates.length G.cg) ∧ u.cell? ⟨w.heap.size + 1, 7, none⟩ = some (.slice G.as_ E.syms.length G.cs) ∧ u.cell? ⟨w.heap.size + 1, 8, none⟩ = some (.string E.com)) := Lib.hid (fun u hu => ⟨((HX0.out.on hu).x.cell 0).1, ((HX0.out.on hu).x.cell 1).1, ((HX0.out.on hu).x.cell 2).1, ((HX0.out.on hu).x.cell 3).1, ((HX0.out.on hu).x.cell 4).1, ((HX0.out.on hu).x.cell 5).1, ((HX0.out.on hu).x.cell 6).1, ((HX0.out.on hu).x.cell 7).1, ((HX0.out.on hu).x.cell 8).1, ((HX0.out.on hu).y.cell 0).1, ((HX0.out.on hu).y.cell 1).1, ((HX0.out.on hu).y.cell 2).1, ((HX0.out.on hu).y.cell 3).1, ((HX0.out.on hu).y.cell 4).1, ((HX0.out.on hu).y.cell 5).1, ((HX0.out.on hu).y.cell 6).1, ((HX0.out.on hu).y.cell 7).1, ((HX0.out.on hu).y.cell 8).1⟩)
  obtain ⟨k0, k1, k2, k3, k4, k5, k6, k7, k8, k9, k10, k11, k12, k13, k14, k15, k16, k17⟩ := KC.out v (Below.refl _ _)
  cases hfw : fewB D 60 with
  | false =>
    have HFW := Lib.hid hfw
    clear hfw
    go_wp2_with fail
    go_at_call 6; refine (few_of HFW.out F _).mono ?_; rintro e w1 ⟨rfl, b1⟩
    have HB1 := Lib.hid (HX0.out.on b1).bel
    clear b1
    go_wp2_with fail
    go_at_call 7; refine (HV.out _).mono ?_; rintro e w2 ⟨rfl, b2⟩
    have HT : Hid (SaysW true w (.returned (.bool true)) w2) := Lib.hid ⟨rfl, HB1.out.trans (b2.mono HB1.out.size)⟩
    clear b2
    go_wp2_with fail
    go_ret
    exact HT.out
  | true =>
    have HFW := Lib.hid hfw
    have HL := Lib.hid (few_lens hfw (by omega))
    clear hfw
    go_wp2_with fail
    go_at_call 6; refine (few_of HFW.out F _).mono ?_; rintro e w1 ⟨rfl, b1⟩
    have HB1 := Lib.hid b1
    clear k0 k1 k2 k3 k4 k5 k6 k7 k8 k9 k10 k11 k12 k13 k14 k15 k16 k17 b1
    obtain ⟨k0, k1, k2, k3, k4, k5, k6, k7, k8, k9, k10, k11, k12, k13, k14, k15, k16, k17⟩ := KC.out w1 HB1.out
    cases hfe : fewB E 60 with
    | false =>
      have HFE := Lib.hid hfe
      clear hfe
      go_wp2_with fail
      go_at_call 6; refine (few_of HFE.out G _).mono ?_; rintro e w2 ⟨rfl, b2⟩
      have HB2 := Lib.hid (HX0.out.on (HB1.out.trans (b2.mono HB1.out.size))).bel
      clear b2
      go_wp2_with fail
      go_at_call 7; refine (HV.out _).mono ?_; rintro e w3 ⟨rfl, b3⟩
      have HT : Hid (SaysW true w (.returned (.bool true)) w3) := Lib.hid ⟨rfl, HB2.out.trans (b3.mono HB2.out.size)⟩
      clear b3
      go_wp2_with fail
      go_ret
      exact HT.out
    | true =>
      have HFE := Lib.hid hfe
      have HLE := Lib.hid (few_lens hfe (by omega))
      clear hfe
      go_wp2_with fail
      go_at_call 6; refine (few_of HFE.out G _).mono ?_; rintro e w2 ⟨rfl, b2⟩
      have HB2 := Lib.hid (HB1.out.trans (b2.mono HB1.out.size))
      clear k0 k1 k2 k3 k4 k5 k6 k7 k8 k9 k10 k11 k12 k13 k14 k15 k16 k17 b2
      have HX2 := Lib.hid (HX0.out.on HB2.out)
      obtain ⟨sb, hsb⟩ : ∃ sb, sb = sameB D E := ⟨_, rfl⟩
      have HSB := Lib.hid hsb
      have hbb : (sb != sb) = false := by cases sb <;> rfl
      clear hsb
      have hd1 : Below w2.heap.size w2 (w2.drewN 1) := below_drewN (Below.refl _ _) 1
      have KC2 : Hid (∀ u, Below w2.heap.size w2 u → u.cell? ⟨w.heap.size, 0, none⟩ = some (.int .i64 D.max) ∧ u.cell? ⟨w.heap.size, 1, none⟩ = some (.slice F.ai D.ins.length F.ci) ∧ u.cell? ⟨w.heap.size, 2, none⟩ = some (.slice F.al D.lats.length F.cl) ∧ u.cell? ⟨w.heap.size, 3, none⟩ = some (.slice F.ao D.outs.length F.co) ∧ u.cell? ⟨w.heap.size, 4, none⟩ = some (.slice F.ab D.bads.length F.cb) ∧ u.cell? ⟨w.heap.size, 5, none⟩ = some (.slice F.ac D.cons.length F.cc) ∧ u.cell? ⟨w.heap.size, 6, none⟩ = some (.slice F.ag D.gates.length F.cg) ∧ u.cell? ⟨w.heap.size, 7, none⟩ = some (.slice F.as_ D.syms.length F.cs) ∧ u.cell? ⟨w.heap.size, 8, none⟩ = some (.string D.com) ∧ u.cell? ⟨w.heap.size + 1, 0, none⟩ = some (.int .i64 E.max) ∧ u.cell? ⟨w.heap.size + 1, 1, none⟩ = some (.slice G.ai E.ins.length G.ci) ∧ u.cell? ⟨w.heap.size + 1, 2, none⟩ = some (.slice G.al E.lats.length G.cl) ∧ u.cell? ⟨w.heap.size + 1, 3, none⟩ = some (.slice G.ao E.outs.length G.co) ∧ u.cell? ⟨w.heap.size + 1, 4, none⟩ = some (.slice G.ab E.bads.length G.cb) ∧ u.cell? ⟨w.heap.size + 1, 5, none⟩ = some (.slice G.ac E.cons.length G.cc) ∧ u.cell? ⟨w.heap.size + 1, 6, none⟩ = some (.slice G.ag E.gates.length G.cg) ∧ u.cell? ⟨w.heap.size + 1, 7, none⟩ = some (.slice G.as_ E.syms.length G.cs) ∧ u.cell? ⟨w.heap.size + 1, 8, none⟩ = some (.string E.com)) := Lib.hid (fun u hu => KC.out u (HB2.out.trans (hu.mono HB2.out.size)))
      obtain ⟨k0, k1, k2, k3, k4, k5, k6, k7, k8, k9, k10, k11, k12, k13, k14, k15, k16, k17⟩ := KC2.out _ hd1
      go_upto_region 3 with fail
      go_region_held3 (fun w' => w'.cell? ⟨w.heap.size, 0, none⟩ = some (.int .i64 D.max) ∧ w'.cell? ⟨w.heap.size, 1, none⟩ = some (.slice F.ai D.ins.length F.ci) ∧ w'.cell? ⟨w.heap.size, 2, none⟩ = some (.slice F.al D.lats.length F.cl) ∧ w'.cell? ⟨w.heap.size, 3, none⟩ = some (.slice F.ao D.outs.length F.co) ∧ w'.cell? ⟨w.heap.size, 4, none⟩ = some (.slice F.ab D.bads.length F.cb) ∧ w'.cell? ⟨w.heap.size, 5, none⟩ = some (.slice F.ac D.cons.length F.cc) ∧ w'.cell? ⟨w.heap.size, 6, none⟩ = some (.slice F.ag D.gates.length F.cg) ∧ w'.cell? ⟨w.heap.size, 7, none⟩ = some (.slice F.as_ D.syms.length F.cs) ∧ w'.cell? ⟨w.heap.size, 8, none⟩ = some (.string D.com) ∧ w'.cell? ⟨w.heap.size + 1, 0, none⟩ = some (.int .i64 E.max) ∧ w'.cell? ⟨w.heap.size + 1, 1, none⟩ = some (.slice G.ai E.ins.length G.ci) ∧ w'.cell? ⟨w.heap.size + 1, 2, none⟩ = some (.slice G.al E.lats.length G.cl) ∧ w'.cell? ⟨w.heap.size + 1, 3, none⟩ = some (.slice G.ao E.outs.length G.co) ∧ w'.cell? ⟨w.heap.size + 1, 4, none⟩ = some (.slice G.ab E.bads.length G.cb) ∧ w'.cell? ⟨w.heap.size + 1, 5, none⟩ = some (.slice G.ac E.cons.length G.cc) ∧ w'.cell? ⟨w.heap.size + 1, 6, none⟩ = some (.slice G.ag E.gates.length G.cg) ∧ w'.cell? ⟨w.heap.size + 1, 7, none⟩ = some (.slice G.as_ E.syms.length G.cs) ∧ w'.cell? ⟨w.heap.size + 1, 8, none⟩ = some (.string E.com))
        (first | (exact KC2.out _ hb5) | (exact KC2.out _ hb4) | (exact KC2.out _ hb3) | (exact KC2.out _ hb2) | (exact KC2.out _ hd1) | go_keep)
        (first | (go_at_call 9; refine (own_any E G _ (HX2.out.on hb2).j.any HLE.out).mono ?_; rintro e x3 ⟨G2, rfl, rg, bg⟩; have hb3 := hb2.trans (bg.mono hb2.size)) | (go_at_call 9; refine (own_any D F _ (HX2.out.on hd1).i.any HL.out).mono ?_; rintro e x2 ⟨F2, rfl, ro, bo⟩; have hb2 := hd1.trans (bo.mono hd1.size)) | (go_at_call 19; refine (HK.out.same D F2 E G2 (fun _ => False) (fun _ => False) _ ((ro.inC (fun k h => h.elim)).on bg) (rg.inC (fun k h => h.elim)) HF.out HG.out HL.out HLE.out).mono ?_; rw [← HSB.out]; rintro e x4 ⟨rfl, b4⟩; have hb4 := hb3.trans (b4.mono hb3.size)) | (go_at_call 17; refine (refSame_any D F E G (NewR w) (NewR w) _ (HX2.out.on hb4).i (HX2.out.on hb4).j HL.out).mono ?_; rw [← HSB.out]; rintro e x5 ⟨rfl, b5⟩; have hb5 := hb4.trans (b5.mono hb4.size)))
      have HB5 := Lib.hid hb5
      have HX5 := Lib.hid (HX2.out.on hb5)
      have KC5 : Hid (∀ u, Below x5.heap.size x5 u → u.cell? ⟨w.heap.size, 0, none⟩ = some (.int .i64 D.max) ∧ u.cell? ⟨w.heap.size, 1, none⟩ = some (.slice F.ai D.ins.length F.ci) ∧ u.cell? ⟨w.heap.size, 2, none⟩ = some (.slice F.al D.lats.length F.cl) ∧ u.cell? ⟨w.heap.size, 3, none⟩ = some (.slice F.ao D.outs.length F.co) ∧ u.cell? ⟨w.heap.size, 4, none⟩ = some (.slice F.ab D.bads.length F.cb) ∧ u.cell? ⟨w.heap.size, 5, none⟩ = some (.slice F.ac D.cons.length F.cc) ∧ u.cell? ⟨w.heap.size, 6, none⟩ = some (.slice F.ag D.gates.length F.cg) ∧ u.cell? ⟨w.heap.size, 7, none⟩ = some (.slice F.as_ D.syms.length F.cs) ∧ u.cell? ⟨w.heap.size, 8, none⟩ = some (.string D.com) ∧ u.cell? ⟨w.heap.size + 1, 0, none⟩ = some (.int .i64 E.max) ∧ u.cell? ⟨w.heap.size + 1, 1, none⟩ = some (.slice G.ai E.ins.length G.ci) ∧ u.cell? ⟨w.heap.size + 1, 2, none⟩ = some (.slice G.al E.lats.length G.cl) ∧ u.cell? ⟨w.heap.size + 1, 3, none⟩ = some (.slice G.ao E.outs.length G.co) ∧ u.cell? ⟨w.heap.size + 1, 4, none⟩ = some (.slice G.ab E.bads.length G.cb) ∧ u.cell? ⟨w.heap.size + 1, 5, none⟩ = some (.slice G.ac E.cons.length G.cc) ∧ u.cell? ⟨w.heap.size + 1, 6, none⟩ = some (.slice G.ag E.gates.length G.cg) ∧ u.cell? ⟨w.heap.size + 1, 7, none⟩ = some (.slice G.as_ E.syms.length G.cs) ∧ u.cell? ⟨w.heap.size + 1, 8, none⟩ = some (.string E.com)) := Lib.hid (fun u hu => KC2.out u (HB5.out.trans (hu.mono HB5.out.size)))
      clear k0 k1 k2 k3 k4 k5 k6 k7 k8 k9 k10 k11 k12 k13 k14 k15 k16 k17 ro bo rg bg b4 b5 hd1 hb2 hb3 hb4 hb5
      obtain ⟨k0, k1, k2, k3, k4, k5, k6, k7, k8, k9, k10, k11, k12, k13, k14, k15, k16, k17⟩ := KC5.out x5 (Below.refl _ _)
      go_wp2_with fail
      go_at_call 9; refine (own_any D F _ HX5.out.i.any HL.out).mono ?_; rintro e w6 ⟨F2, rfl, ro, bo⟩
      obtain ⟨B, hB⟩ : ∃ B, B = x5.heap.size := ⟨_, rfl⟩
      rw [← hB] at ro
      have HBG : Hid (w.heap.size + 2 ≤ B) := Lib.hid (by have := HX5.out.y.lt; omega)
      have Y0 := blk_new w6 (ccells D F2) 27
      have B7 : Below w6.heap.size w6 (w6.alloc (.cells (ccells D F2) 27)) := (Below.refl _ _).alloc (Nat.le_refl _) _
      have HRO := Lib.hid ro
      have HX7 := Lib.hid ((HX5.out.on bo).on B7)
      have HI7 := Lib.hid ((ro.inC (P := fun _ => False) (fun k h => h.elim)).on B7)
      have HB7 := Lib.hid B7
      have HY7 := Lib.hid Y0
      have HBY : Hid (B ≤ w6.heap.size) := Lib.hid (by rw [hB]; exact bo.size)
      clear k0 k1 k2 k3 k4 k5 k6 k7 k8 k9 k10 k11 k12 k13 k14 k15 k16 k17 ro bo B7 Y0 hB
      go_upto_region 6 with fail
      obtain ⟨v7, hv7⟩ : ∃ v7, v7 = w6.alloc (.cells #[.int .i64 D.max, .slice F2.ai D.ins.length F2.ci, .slice F2.al D.lats.length F2.cl, .slice F2.ao D.outs.length F2.co, .slice F2.ab D.bads.length F2.cb, .slice F2.ac D.cons.length F2.cc, .slice F2.ag D.gates.length F2.cg, .slice F2.as_ D.syms.length F2.cs, .string D.com] 27) := ⟨_, rfl⟩
      have e7 : w6.alloc (.cells (ccells D F2) 27) = v7 := hv7.symm
      obtain ⟨Y, hY⟩ : ∃ Y, Y = w6.heap.size := ⟨_, rfl⟩
      rw [e7] at HX7 HI7 HB7 HY7
      rw [← hY] at HY7 HBY
      have HYS : Hid (w6.heap.size ≤ Y) := Lib.hid (by omega)
      have HY8 : Hid (Y < v7.heap.size) := Lib.hid (HY7.out.lt)
      rw [← hv7, ← hY]
      clear hv7 e7 hY
      have c0 := (HY7.out.cell 0).1
      have c1 := (HY7.out.cell 1).1
      have c2 := (HY7.out.cell 2).1
      have c3 := (HY7.out.cell 3).1
      have c4 := (HY7.out.cell 4).1
      have c5 := (HY7.out.cell 5).1
      have c6 := (HY7.out.cell 6).1
      have c7 := (HY7.out.cell 7).1
      have c8 := (HY7.out.cell 8).1
      simp at c0 c1 c2 c3 c4 c5 c6 c7 c8
      go_wp2_with fail
      go_at_call 20; refine (HK.out.clone D F2 (fun _ => False) _ HI7.out HF.out HL.out).mono ?_; rintro e w8 ⟨F3, rfl, i3, b8⟩
      have Z0 := blk_new w8 (ccells D F3) 27
      have B9 : Below w8.heap.size w8 (w8.alloc (.cells (ccells D F3) 27)) := (Below.refl _ _).alloc (Nat.le_refl _) _
      have HB9 := Lib.hid (b8.trans (B9.mono b8.size))
      have HI9 := Lib.hid (i3.on B9)
      have HZ9 := Lib.hid Z0
      have HZG : Hid (v7.heap.size ≤ w8.heap.size) := Lib.hid b8.size
      clear c0 c1 c2 c3 c4 c5 c6 c7 c8 i3 b8 Z0 B9
      go_upto_region 7 with fail
      obtain ⟨v9, hv9⟩ : ∃ v9, v9 = w8.alloc (.cells #[.int .i64 D.max, .slice F3.ai D.ins.length F3.ci, .slice F3.al D.lats.length F3.cl, .slice F3.ao D.outs.length F3.co, .slice F3.ab D.bads.length F3.cb, .slice F3.ac D.cons.length F3.cc, .slice F3.ag D.gates.length F3.cg, .slice F3.as_ D.syms.length F3.cs, .string D.com] 27) := ⟨_, rfl⟩
      have e9 : w8.alloc (.cells (ccells D F3) 27) = v9 := hv9.symm
      obtain ⟨Z, hZ⟩ : ∃ Z, Z = w8.heap.size := ⟨_, rfl⟩
      rw [e9] at HB9 HI9 HZ9
      rw [← hZ] at HZ9 HZG
      rw [← hv9, ← hZ]
      clear hv9 e9 hZ
      have HX9 := Lib.hid (HX7.out.on HB9.out)
      have HY9 := Lib.hid (HY7.out.on HB9.out)
      have c0 := (HZ9.out.cell 0).1
      have c1 := (HZ9.out.cell 1).1
      have c2 := (HZ9.out.cell 2).1
      have c3 := (HZ9.out.cell 3).1
      have c4 := (HZ9.out.cell 4).1
      have c5 := (HZ9.out.cell 5).1
      have c6 := (HZ9.out.cell 6).1
      have c7 := (HZ9.out.cell 7).1
      have c8 := (HZ9.out.cell 8).1
      have e0 := (HX9.out.x.cell 0).1
      have e1 := (HX9.out.x.cell 1).1
      have e2 := (HX9.out.x.cell 2).1
      have e3 := (HX9.out.x.cell 3).1
      have e4 := (HX9.out.x.cell 4).1
      have e5 := (HX9.out.x.cell 5).1
      have e6 := (HX9.out.x.cell 6).1
      have e7 := (HX9.out.x.cell 7).1
      have e8 := (HX9.out.x.cell 8).1
      simp at c0 c1 c2 c3 c4 c5 c6 c7 c8 e0 e1 e2 e3 e4 e5 e6 e7 e8
      go_wp2_with fail
      go_at_call 17; refine (refSame_any D F3 D F (OldR v7) (NewR w) _ HI9.out HX9.out.i HL.out).mono ?_; rw [same_self]; rintro e w0 ⟨rfl, b0⟩
      have HX := Lib.hid (HX9.out.on b0)
      have HY := Lib.hid (HY9.out.on b0)
      have HZ := Lib.hid (HZ9.out.on b0)
      have HI := Lib.hid (HI9.out.on b0)
      have HW0 : Hid (Fin4 w B Y D F2 w0 w0) := Lib.hid (by
        have q : Below w6.heap.size w6 w0 := (HB7.out.trans (HB9.out.mono HB7.out.size)).trans (b0.mono (Nat.le_trans HB7.out.size HB9.out.size))
        exact ⟨HX.out.bel, by have := HBG.out; omega, Nat.le_refl _, fun k _ _ => rfl, (liv_own HRO.out.i HYS.out).on q, (liv_own HRO.out.l HYS.out).on q, (liv_own HRO.out.g HYS.out).on q, (liv_own HRO.out.b HYS.out).on q⟩)
      have KY : Hid (∀ u, Fin4 w B Y D F2 w0 u → Blk u Y (ccells D F2)) := Lib.hid (fun u hu => hu.box HY.out (by omega))
      clear c0 c1 c2 c3 c4 c5 c6 c7 c8 e0 e1 e2 e3 e4 e5 e6 e7 e8 b0
      obtain ⟨ni, hni⟩ : ∃ n, n = D.ins.length := ⟨_, rfl⟩
      obtain ⟨nl, hnl⟩ : ∃ n, n = D.lats.length := ⟨_, rfl⟩
      obtain ⟨ng, hng⟩ : ∃ n, n = D.gates.length := ⟨_, rfl⟩
      obtain ⟨nb, hnb⟩ : ∃ n, n = D.bads.length := ⟨_, rfl⟩
      have HNI := Lib.hid hni
      have HNL := Lib.hid hnl
      have HNG := Lib.hid hng
      have HNB := Lib.hid hnb
      have mi : ni ≤ 1000 := by rw [hni]; exact HL.out.i
      have ml : nl ≤ 1000 := by rw [hnl]; exact HL.out.l
      have mg : ng ≤ 1000 := by rw [hng]; exact HL.out.g
      have mb : nb ≤ 1000 := by rw [hnb]; exact HL.out.b
      clear hni hnl hng hnb
      go_wp2_with fail
      go_loopw [7] (fun i wr => ∃ k : Nat, k ≤ ni ∧ i = .int .i64 k ∧ Hid (Fin4 w B Y D F2 w0 wr)) (fun i _ => ni - (intOf i).toNat)
      case atStart => exact ⟨0, Nat.zero_le _, rfl, HW0⟩
      case round =>
        clear HW0
        obtain ⟨k, hk, rfl, HW⟩ := hrel
        obtain ⟨wo, rfl⟩ : ∃ wo : World, wo = wr := ⟨_, rfl⟩
        have cc : wo.cell? ⟨Y, 1, none⟩ = some (.slice F2.ai D.ins.length F2.ci) := ((KY.out wo HW.out).cell 1).1
        rw [← HNI.out] at cc
        by_cases hlt : k < ni
        · have d1 : (k : Int) < (ni : Int) := by omega
          have d2 : 0 ≤ (k : Int) := by omega
          obtain ⟨g, cs, hga, h1, h2, hblk, hsz⟩ := HW.out.i (by rw [← HNI.out]; omega)
          rw [← HNI.out] at hsz
          obtain ⟨u, z1, z2⟩ := hblk.has (j := k) (by omega)
          rw [hga] at cc
          have HPUT : Hid (∀ u, Fin4 w B Y D F2 w0 (wo.setCell ⟨g, k, none⟩ u)) := Lib.hid (fun u => HW.out.put h1 h2 u)
          clear hga hblk hsz h1 h2
          go_wp2_with fail
          go_roundw
          case rel => exact ⟨k + 1, by omega, by go_num, Lib.hid (HPUT.out _)⟩
          case measure => simp [intOf]; omega
        · have d1 : decide ((k : Int) < (ni : Int)) = false := by simp; omega
          have d2 : decide (k < ni) = false := by simp; omega
          have HW9 := HW
          clear HW hlt hk
          go_wp2_with fail
          go_loopw [8] (fun i wr => ∃ k : Nat, k ≤ nl ∧ i = .int .i64 k ∧ Hid (Fin4 w B Y D F2 w0 wr)) (fun i _ => nl - (intOf i).toNat)
          case atStart => exact ⟨0, Nat.zero_le _, rfl, HW9⟩
          case round =>
            clear HW9
            obtain ⟨k, hk, rfl, HW⟩ := hrel
            obtain ⟨wo, rfl⟩ : ∃ wo : World, wo = wr := ⟨_, rfl⟩
            have cc : wo.cell? ⟨Y, 2, none⟩ = some (.slice F2.al D.lats.length F2.cl) := ((KY.out wo HW.out).cell 2).1
            rw [← HNL.out] at cc
            by_cases hlt : k < nl
            · have d1 : (k : Int) < (nl : Int) := by omega
              have d2 : 0 ≤ (k : Int) := by omega
              obtain ⟨g, cs, hga, h1, h2, hblk, hsz⟩ := HW.out.l (by rw [← HNL.out]; omega)
              rw [← HNL.out] at hsz
              obtain ⟨u, z1, z2⟩ := hblk.has (j := k * 3) (by omega)
              rw [hga] at cc
              have HPUT : Hid (∀ u, Fin4 w B Y D F2 w0 (wo.setCell ⟨g, k * 3, none⟩ u)) := Lib.hid (fun u => HW.out.put h1 h2 u)
              clear hga hblk hsz h1 h2
              go_wp2_with fail
              go_roundw
              case rel => exact ⟨k + 1, by omega, by go_num, Lib.hid (HPUT.out _)⟩
              case measure => simp [intOf]; omega
            · have d1 : decide ((k : Int) < (nl : Int)) = false := by simp; omega
              have d2 : decide (k < nl) = false := by simp; omega
              have HW9 := HW
              clear HW hlt hk
              go_wp2_with fail
              go_loopw [9] (fun i wr => ∃ k : Nat, k ≤ ng ∧ i = .int .i64 k ∧ Hid (Fin4 w B Y D F2 w0 wr)) (fun i _ => ng - (intOf i).toNat)
              case atStart => exact ⟨0, Nat.zero_le _, rfl, HW9⟩
              case round =>
                clear HW9
                obtain ⟨k, hk, rfl, HW⟩ := hrel
                obtain ⟨wo, rfl⟩ : ∃ wo : World, wo = wr := ⟨_, rfl⟩
                have cc : wo.cell? ⟨Y, 6, none⟩ = some (.slice F2.ag D.gates.length F2.cg) := ((KY.out wo HW.out).cell 6).1
                rw [← HNG.out] at cc
                by_cases hlt : k < ng
                · have d1 : (k : Int) < (ng : Int) := by omega
                  have d2 : 0 ≤ (k : Int) := by omega
                  obtain ⟨g, cs, hga, h1, h2, hblk, hsz⟩ := HW.out.g (by rw [← HNG.out]; omega)
                  rw [← HNG.out] at hsz
                  obtain ⟨u, z1, z2⟩ := hblk.has (j := k * 3) (by omega)
                  rw [hga] at cc
                  have HPUT : Hid (∀ u, Fin4 w B Y D F2 w0 (wo.setCell ⟨g, k * 3, none⟩ u)) := Lib.hid (fun u => HW.out.put h1 h2 u)
                  clear hga hblk hsz h1 h2
                  go_wp2_with fail
                  go_roundw
                  case rel => exact ⟨k + 1, by omega, by go_num, Lib.hid (HPUT.out _)⟩
                  case measure => simp [intOf]; omega
                · have d1 : decide ((k : Int) < (ng : Int)) = false := by simp; omega
                  have d2 : decide (k < ng) = false := by simp; omega
                  have HW9 := HW
                  clear HW hlt hk
                  go_wp2_with fail
                  go_loopw [10] (fun i wr => ∃ k : Nat, k ≤ nb ∧ i = .int .i64 k ∧ Hid (Fin4 w B Y D F2 w0 wr)) (fun i _ => nb - (intOf i).toNat)
                  case atStart => exact ⟨0, Nat.zero_le _, rfl, HW9⟩
                  case round =>
                    clear HW9
                    obtain ⟨k, hk, rfl, HW⟩ := hrel
                    obtain ⟨wo, rfl⟩ : ∃ wo : World, wo = wr := ⟨_, rfl⟩
                    have cc : wo.cell? ⟨Y, 4, none⟩ = some (.slice F2.ab D.bads.length F2.cb) := ((KY.out wo HW.out).cell 4).1
                    rw [← HNB.out] at cc
                    by_cases hlt : k < nb
                    · have d1 : (k : Int) < (nb : Int) := by omega
                      have d2 : 0 ≤ (k : Int) := by omega
                      obtain ⟨g, cs, hga, h1, h2, hblk, hsz⟩ := HW.out.b (by rw [← HNB.out]; omega)
                      rw [← HNB.out] at hsz
                      obtain ⟨u, z1, z2⟩ := hblk.has (j := k) (by omega)
                      rw [hga] at cc
                      have HPUT : Hid (∀ u, Fin4 w B Y D F2 w0 (wo.setCell ⟨g, k, none⟩ u)) := Lib.hid (fun u => HW.out.put h1 h2 u)
                      clear hga hblk hsz h1 h2
                      go_wp2_with fail
                      go_roundw
                      case rel => exact ⟨k + 1, by omega, by go_num, Lib.hid (HPUT.out _)⟩
                      case measure => simp [intOf]; omega
                    · have d1 : decide ((k : Int) < (nb : Int)) = false := by simp; omega
                      have d2 : decide (k < nb) = false := by simp; omega
                      have HW9 := HW
                      clear HW hlt hk
                      have hzx := (HW9.out.box HX.out.x (by have := HBG.out; omega))
                      have hzz := (HW9.out.box HZ.out (by have := HZG.out; have := HY8.out; omega))
                      have c0 := (hzz.cell 0).1
                      have c1 := (hzz.cell 1).1
                      have c2 := (hzz.cell 2).1
                      have c3 := (hzz.cell 3).1
                      have c4 := (hzz.cell 4).1
                      have c5 := (hzz.cell 5).1
                      have c6 := (hzz.cell 6).1
                      have c7 := (hzz.cell 7).1
                      have c8 := (hzz.cell 8).1
                      have e0 := (hzx.cell 0).1
                      have e1 := (hzx.cell 1).1
                      have e2 := (hzx.cell 2).1
                      have e3 := (hzx.cell 3).1
                      have e4 := (hzx.cell 4).1
                      have e5 := (hzx.cell 5).1
                      have e6 := (hzx.cell 6).1
                      have e7 := (hzx.cell 7).1
                      have e8 := (hzx.cell 8).1
                      simp at c0 c1 c2 c3 c4 c5 c6 c7 c8 e0 e1 e2 e3 e4 e5 e6 e7 e8
                      have HI3 : Hid (InC (fun k => B ≤ k ∧ k < Y) wo D F3) := Lib.hid ((HI.out.weak (fun k _ h => by have := HY8.out; show k < v7.heap.size; omega)).same HW9.out.size HW9.out.blk)
                      have HIA : Hid (InC (fun k => B ≤ k ∧ k < Y) wo D F) := Lib.hid ((HX.out.i.weak (fun k _ h => by have := HBG.out; show w.heap.size ≤ k; omega)).same HW9.out.size HW9.out.blk)
                      go_wp2_with fail
                      go_at_call 17; refine (refSame_any D F3 D F _ _ _ HI3.out HIA.out HL.out).mono ?_; rw [same_self]; rintro e wa ⟨rfl, ba⟩
                      have HBA := Lib.hid (HW9.out.bel.trans (ba.mono HW9.out.bel.size))
                      clear ba
                      go_wp2_with fail
                      go_at_call 7; refine (HV.out _).mono ?_; rintro e wl ⟨rfl, bl⟩
                      have HT : Hid (SaysW true w (.returned (.bool true)) wl) := Lib.hid ⟨rfl, HBA.out.trans (bl.mono HBA.out.size)⟩
                      clear bl
                      go_wp2_with fail
                      go_ret
                      exact HT.out
end Go.Proofs.Ytbpjflghkkkenaa.row

/- All that circ has to be. -/
namespace Go.Proofs.Ytbpjflghkkkenaa.row
open Go.RowKit
theorem circ_all : CircAll :=
  ⟨fun D F P w hc _ hl => check_any D F P w hc hl, fun D F P w hc _ hl hz => order_any D F P w hc hl hz, fun D F P w hc _ hl hz => net_any D F P w hc hl hz,
    fun D F E G P Q w hc hd _ _ _ _ => same_any D F E G P Q w hc hd, fun D F P w hc _ hl => clone_any D F P w hc hl⟩
end Go.Proofs.Ytbpjflghkkkenaa.row
