import Derived.Test.YtbpjflghkkkenaaMg13
import Derived.Test.YtbpjflghkkkenaaMg14
import Derived.Deep.DeepCutAuto
import Derived.Deep.RegionHeld3
import Derived.IntWalk
/- The walk of the document's Order. (Printed by mkN10.py.) -/
namespace Go.Proofs.Ytbpjflghkkkenaa.row
open Go.RowKit
open Go.Proofs.Ytbpjflghkkkenaa.mem (own_on addr_add)
open Go.Proofs.Ytbpjflghkkkenaa.rinv
open Go.Proofs.Ytbpjflghkkkenaa.ints (Ints)
open Go.Proofs.Ytbpjflghkkkenaa.aig (row_end news1 one_cell)

def nextZ (gs : List Tri) (bs : List Bool) (k : Nat) : Int := match nextTo gs bs k with
  | some j => (j : Int)
  | none => -1
def lenV : Value → Nat
  | .slice _ n _ => n
  | _ => 0
theorem lenV_own {w : World} {B sz n : Nat} {e : TypeId} {v : Value} {xs : List Value} (h : w.ownsRow B e sz v n xs) : lenV v = n := by
  obtain ⟨a, c, rfl⟩ := owns_form h; rfl
theorem Begun.drew {v w : World} {n : Nat} {s3 s4 : Value} (h : Begun v n s3 s4 w) : Begun v n s3 s4 w.drew := by
  obtain ⟨gt, h1, h2⟩ := h
  exact ⟨gt, h1, h2.on (Below.refl _ _).drew⟩
theorem free_of {gs : List Tri} {bs : List Bool} {k : Nat} {t x y : Bool} (h1 : t = bs.getD k false) (h2 : x = waitsB gs bs (gs.getD k (0, 0, 0)).2.1) (h3 : y = waitsB gs bs (gs.getD k (0, 0, 0)).2.2) : freeB gs bs k = (!t && (!x && !y)) := by
  unfold freeB; rw [h1, h2, h3]
theorem ex29 {β : Type} {F : Value → Value → Value → Value → Value → Value → Value → Value → Value → Value → Value → Value → Value → Value → Value → Value → Value → Value → Value → Value → Value → Value → Value → Value → Value → Value → Value → Value → Value → β} {J : Value → Value → Value → Value → Value → Value → Value → Value → Value → Value → Value → Value → Value → Value → Value → Value → Value → Value → Value → Value → Value → Value → Value → Value → Value → Value → Value → Value → Value → Prop} {a : β} (h : ∃ u0 u1 u2 u3 u4 u5 u6 u7 u8 u9 u10 u11 u12 u13 u14 u15 u16 u17 u18 u19 u20 u21 u22 u23 u24 u25 u26 u27 u28, a = F u0 u1 u2 u3 u4 u5 u6 u7 u8 u9 u10 u11 u12 u13 u14 u15 u16 u17 u18 u19 u20 u21 u22 u23 u24 u25 u26 u27 u28 ∧ J u0 u1 u2 u3 u4 u5 u6 u7 u8 u9 u10 u11 u12 u13 u14 u15 u16 u17 u18 u19 u20 u21 u22 u23 u24 u25 u26 u27 u28) {G : β → Prop} (k : ∀ u0 u1 u2 u3 u4 u5 u6 u7 u8 u9 u10 u11 u12 u13 u14 u15 u16 u17 u18 u19 u20 u21 u22 u23 u24 u25 u26 u27 u28, J u0 u1 u2 u3 u4 u5 u6 u7 u8 u9 u10 u11 u12 u13 u14 u15 u16 u17 u18 u19 u20 u21 u22 u23 u24 u25 u26 u27 u28 → G (F u0 u1 u2 u3 u4 u5 u6 u7 u8 u9 u10 u11 u12 u13 u14 u15 u16 u17 u18 u19 u20 u21 u22 u23 u24 u25 u26 u27 u28)) : G a := by
  obtain ⟨u0, u1, u2, u3, u4, u5, u6, u7, u8, u9, u10, u11, u12, u13, u14, u15, u16, u17, u18, u19, u20, u21, u22, u23, u24, u25, u26, u27, u28, rfl, j⟩ := h
  exact k _ _ _ _ _ _ _ _ _ _ _ _ _ _ _ _ _ _ _ _ _ _ _ _ _ _ _ _ _ j
theorem all_of29 {T : Nat → Prop} (h0 : T 0) (h1 : T 1) (h2 : T 2) (h3 : T 3) (h4 : T 4) (h5 : T 5) (h6 : T 6) (h7 : T 7) (h8 : T 8) (h9 : T 9) (h10 : T 10) (h11 : T 11) (h12 : T 12) (h13 : T 13) (h14 : T 14) (h15 : T 15) (h16 : T 16) (h17 : T 17) (h18 : T 18) (h19 : T 19) (h20 : T 20) (h21 : T 21) (h22 : T 22) (h23 : T 23) (h24 : T 24) (h25 : T 25) (h26 : T 26) (h27 : T 27) (h28 : T 28) : ∀ i, i < 29 → T i := by
  intro i hi
  match i, hi with
  | 0, _ => exact h0
  | 1, _ => exact h1
  | 2, _ => exact h2
  | 3, _ => exact h3
  | 4, _ => exact h4
  | 5, _ => exact h5
  | 6, _ => exact h6
  | 7, _ => exact h7
  | 8, _ => exact h8
  | 9, _ => exact h9
  | 10, _ => exact h10
  | 11, _ => exact h11
  | 12, _ => exact h12
  | 13, _ => exact h13
  | 14, _ => exact h14
  | 15, _ => exact h15
  | 16, _ => exact h16
  | 17, _ => exact h17
  | 18, _ => exact h18
  | 19, _ => exact h19
  | 20, _ => exact h20
  | 21, _ => exact h21
  | 22, _ => exact h22
  | 23, _ => exact h23
  | 24, _ => exact h24
  | 25, _ => exact h25
  | 26, _ => exact h26
  | 27, _ => exact h27
  | 28, _ => exact h28
  | n + 29, h => omega
set_option maxRecDepth 100000 in
set_option maxHeartbeats 6400000 in
theorem refOrder_any (D : CD) (F : CF) (P : Nat → Prop) (w : World) (hc : InC P w D F) (hn : D.gates.length ≤ 1000) (hg : ∀ t ∈ D.gates, Lit3 t) :
    Calls Try.prog 16 #[cval D F] w (Tells (orderL D.gates) w) := by
  obtain ⟨i0, hi, hz0, hz1, hz2⟩ := info_parts infoI1
  have HC := Lib.hid hc
  have HG := Lib.hid hg
  have h2 := fun w => mk_bools D.gates.length w hn
  clear hc hg
  go_enter Try.func16, Try.ntmps16
  go_upto_region 1 with fail
  have X0 := blk_new w (ccells D F) 27
  have B0 : Below w.heap.size w (w.alloc (.cells (ccells D F) 27)) := (Below.refl _ _).alloc (Nat.le_refl _) _
  have I0 := HC.out.on B0
  clear HC
  generalize w.alloc (.cells (ccells D F) 27) = v at *
  have HX := Lib.hid X0
  have HB := Lib.hid B0
  have HI := Lib.hid I0
  have hX := X0.lt
  have x0 : v.cell? ⟨w.heap.size, 6, none⟩ = some (.slice F.ag D.gates.length F.cg) := (X0.cell 6).1
  have HA1 := Lib.hid (begun_a v D.gates.length).drew
  have HA2 := Lib.hid (begun_b v D.gates.length).drew
  clear X0 B0 I0
  go_cut [3, 4] (fun s3 s4 wx => Begun v D.gates.length s3 s4 wx)
  case first =>
    go_region
    all_goals
      go_wp2_with fail
      go_meet
      first | exact HA1.out | exact HA2.out
  case rest =>
    obtain ⟨gt, rfl, ot⟩ := hcut
    have HOT := Lib.hid ot
    have HS0 : Hid ((List.replicate D.gates.length false).length = D.gates.length ∧ cntF (List.replicate D.gates.length false) + ([] : List Int).length = D.gates.length ∧ [] ++ ordF D.gates (cntF (List.replicate D.gates.length false)) (List.replicate D.gates.length false) = orderL D.gates) :=
      Lib.hid ⟨by simp, by rw [cnt_new]; rfl, by rw [cnt_new]; rfl⟩
    clear ot h2 x0 HA1 HA2
    go_wp2_with fail
    go_loopw [3] (fun l wr => ∃ (L : List Int) (bs : List Bool), Hid (bs.length = D.gates.length ∧ cntF bs + L.length = D.gates.length ∧ L ++ ordF D.gates (cntF bs) bs = orderL D.gates) ∧ Hid (OT v gt l L bs wr)) (fun l _ => D.gates.length - lenV l)
    case atStart => exact ⟨[], List.replicate D.gates.length false, HS0, HOT⟩
    case round =>
      clear HS0 HOT
      obtain ⟨L, bs, HS, HO⟩ := hrel
      obtain ⟨wo, rfl⟩ : ∃ wo : World, wo = wr := ⟨_, rfl⟩
      go_wp2_with fail
      have hsz := HO.out.bel.size
      go_loopw [5, 6] (fun x i wr => ∃ (k : Nat) (z : Int), k ≤ D.gates.length ∧ i = .int .i64 k ∧ x = .int .i64 z ∧ Hid (z = nextZ D.gates bs k) ∧ Hid (Below wo.heap.size wo wr)) (fun _ i _ => D.gates.length - (intOf i).toNat)
      case atStart => exact ⟨0, -1, Nat.zero_le _, by go_num, rfl, Lib.hid rfl, Lib.hid (Below.refl _ _)⟩
      case round =>
        obtain ⟨k, z, hk, rfl, rfl, HZ, HBW⟩ := hrel
        obtain ⟨wi, rfl⟩ : ∃ wi : World, wi = wr := ⟨_, rfl⟩
        have hBV := HO.out.bel.trans (HBW.out.mono hsz)
        have HBV := Lib.hid hBV
        have hszi := hBV.size
        have hX2 : w.heap.size < wi.heap.size := by omega
        have x0 : wi.cell? ⟨w.heap.size, 6, none⟩ = some (.slice F.ag D.gates.length F.cg) := ((HX.out.on hBV).cell 6).1
        have d2 : 0 ≤ (k : Int) := by omega
        clear hBV
        cases hno : nextTo D.gates bs k with
        | none =>
          have HNO := Lib.hid hno
          obtain rfl : z = -1 := by rw [HZ.out]; unfold nextZ; rw [hno]
          clear hno HZ
          by_cases hlt : k < D.gates.length
          · have d1 : decide ((k : Int) < (D.gates.length : Int)) = true := by simp; omega
            obtain ⟨b, off, hba, hlb, -, e1, e2⟩ := Rw.at3 (HI.out.on HBV.out).g hlt
            have HBA := Lib.hid hba
            have hL := lit3_at HG.out k
            obtain ⟨ga, hga⟩ : ∃ ga, ga = (D.gates.getD k (0, 0, 0)).2.1 := ⟨_, rfl⟩
            obtain ⟨gb, hgb⟩ : ∃ gb, gb = (D.gates.getD k (0, 0, 0)).2.2 := ⟨_, rfl⟩
            obtain ⟨t, ht⟩ : ∃ t, t = bs.getD k false := ⟨_, rfl⟩
            obtain ⟨wa, hwa⟩ : ∃ wa, wa = waitsB D.gates bs ga := ⟨_, rfl⟩
            obtain ⟨wb, hwb⟩ : ∃ wb, wb = waitsB D.gates bs gb := ⟨_, rfl⟩
            rw [← hga] at e1
            rw [← hgb] at e2
            have HFR0 := Lib.hid (free_of (gs := D.gates) ht (hga ▸ hwa) (hgb ▸ hwb))
            have hR := HO.out.rw (by rw [HS.out.1]; unfold maxLen; omega)
            rw [HS.out.1] at hR
            have HR := Lib.hid hR
            have HCA : Hid (∀ u, Below wi.heap.size wi u → Calls Try.prog 31 #[.agg #[.int .i64 D.max, .slice F.ai D.ins.length F.ci, .slice F.al D.lats.length F.cl, .slice F.ao D.outs.length F.co, .slice F.ab D.bads.length F.cb, .slice F.ac D.cons.length F.cc, .slice (some ⟨b, off, none⟩) D.gates.length F.cg, .slice F.as_ D.syms.length F.cs, .string D.com], .slice (some ⟨gt, 0, none⟩) D.gates.length D.gates.length, .int .i64 ga] u (SaysW wa u)) := Lib.hid (by
              intro u hu
              have h := refWaits_any D F P (fun _ => False) (.slice (some ⟨gt, 0, none⟩) D.gates.length D.gates.length) bs ga u ((HI.out.on HBV.out).on hu) ((HR.out.on HBW.out).on hu) HS.out.1 hn HG.out (by rw [hga]; exact hL.2.1)
              unfold cval ccells at h
              rw [HBA.out, ← hwa] at h
              exact h)
            have HCB : Hid (∀ u, Below wi.heap.size wi u → Calls Try.prog 31 #[.agg #[.int .i64 D.max, .slice F.ai D.ins.length F.ci, .slice F.al D.lats.length F.cl, .slice F.ao D.outs.length F.co, .slice F.ab D.bads.length F.cb, .slice F.ac D.cons.length F.cc, .slice (some ⟨b, off, none⟩) D.gates.length F.cg, .slice F.as_ D.syms.length F.cs, .string D.com], .slice (some ⟨gt, 0, none⟩) D.gates.length D.gates.length, .int .i64 gb] u (SaysW wb u)) := Lib.hid (by
              intro u hu
              have h := refWaits_any D F P (fun _ => False) (.slice (some ⟨gt, 0, none⟩) D.gates.length D.gates.length) bs gb u ((HI.out.on HBV.out).on hu) ((HR.out.on HBW.out).on hu) HS.out.1 hn HG.out (by rw [hgb]; exact hL.2.2)
              unfold cval ccells at h
              rw [HBA.out, ← hwb] at h
              exact h)
            have ct : wi.cell? ⟨gt, k, none⟩ = some (.bool t) := by rw [ht]; exact ((HO.out.on HBW.out).cell (by rw [HS.out.1]; exact hlt)).1
            have hgt : gt < wi.heap.size := (HO.out.on HBW.out).told.lt
            have c0 : wi.cell? ⟨w.heap.size, 0, none⟩ = some (.int .i64 D.max) := by exact ((HX.out.on HBV.out).cell 0).1
            have c1 : wi.cell? ⟨w.heap.size, 1, none⟩ = some (.slice F.ai D.ins.length F.ci) := by exact ((HX.out.on HBV.out).cell 1).1
            have c2 : wi.cell? ⟨w.heap.size, 2, none⟩ = some (.slice F.al D.lats.length F.cl) := by exact ((HX.out.on HBV.out).cell 2).1
            have c3 : wi.cell? ⟨w.heap.size, 3, none⟩ = some (.slice F.ao D.outs.length F.co) := by exact ((HX.out.on HBV.out).cell 3).1
            have c4 : wi.cell? ⟨w.heap.size, 4, none⟩ = some (.slice F.ab D.bads.length F.cb) := by exact ((HX.out.on HBV.out).cell 4).1
            have c5 : wi.cell? ⟨w.heap.size, 5, none⟩ = some (.slice F.ac D.cons.length F.cc) := by exact ((HX.out.on HBV.out).cell 5).1
            have c6 : wi.cell? ⟨w.heap.size, 6, none⟩ = some (.slice (some ⟨b, off, none⟩) D.gates.length F.cg) := by rw [← HBA.out]; exact ((HX.out.on HBV.out).cell 6).1
            have c7 : wi.cell? ⟨w.heap.size, 7, none⟩ = some (.slice F.as_ D.syms.length F.cs) := by exact ((HX.out.on HBV.out).cell 7).1
            have c8 : wi.cell? ⟨w.heap.size, 8, none⟩ = some (.string D.com) := by exact ((HX.out.on HBV.out).cell 8).1
            have KC : Hid (∀ u, Below wi.heap.size wi u → u.cell? ⟨w.heap.size, 0, none⟩ = some (.int .i64 D.max) ∧ u.cell? ⟨w.heap.size, 1, none⟩ = some (.slice F.ai D.ins.length F.ci) ∧ u.cell? ⟨w.heap.size, 2, none⟩ = some (.slice F.al D.lats.length F.cl) ∧ u.cell? ⟨w.heap.size, 3, none⟩ = some (.slice F.ao D.outs.length F.co) ∧ u.cell? ⟨w.heap.size, 4, none⟩ = some (.slice F.ab D.bads.length F.cb) ∧ u.cell? ⟨w.heap.size, 5, none⟩ = some (.slice F.ac D.cons.length F.cc) ∧ u.cell? ⟨w.heap.size, 6, none⟩ = some (.slice (some ⟨b, off, none⟩) D.gates.length F.cg) ∧ u.cell? ⟨w.heap.size, 7, none⟩ = some (.slice F.as_ D.syms.length F.cs) ∧ u.cell? ⟨w.heap.size, 8, none⟩ = some (.string D.com) ∧ u.cell? ⟨b, off + k * 3 + 1, none⟩ = some (.int .i64 ga) ∧ u.cell? ⟨b, off + k * 3 + 2, none⟩ = some (.int .i64 gb) ∧ u.cell? ⟨gt, k, none⟩ = some (.bool t)) := Lib.hid (fun u hu => ⟨(hu.cell (p := ⟨w.heap.size, 0, none⟩) hX2).trans c0, (hu.cell (p := ⟨w.heap.size, 1, none⟩) hX2).trans c1, (hu.cell (p := ⟨w.heap.size, 2, none⟩) hX2).trans c2, (hu.cell (p := ⟨w.heap.size, 3, none⟩) hX2).trans c3, (hu.cell (p := ⟨w.heap.size, 4, none⟩) hX2).trans c4, (hu.cell (p := ⟨w.heap.size, 5, none⟩) hX2).trans c5, (hu.cell (p := ⟨w.heap.size, 6, none⟩) hX2).trans c6, (hu.cell (p := ⟨w.heap.size, 7, none⟩) hX2).trans c7, (hu.cell (p := ⟨w.heap.size, 8, none⟩) hX2).trans c8, (hu.cell (p := ⟨b, off + k * 3 + 1, none⟩) hlb).trans e1, (hu.cell (p := ⟨b, off + k * 3 + 2, none⟩) hlb).trans e2, (hu.cell (p := ⟨gt, k, none⟩) hgt).trans ct⟩)
            have HD1 : Hid (Below wi.heap.size wi (wi.drewN 1)) := Lib.hid (Go.Proofs.Ytbpjflghkkkenaa.ints.below_drewN (Below.refl _ _) 1)
            have hd1 : Below wi.heap.size wi (wi.drewN 1) := HD1.out
            clear hba hga hgb ht hwa hwb hL hR x0
            have x0 := c6
            cases t with
            | true =>
              have HFR : Hid (freeB D.gates bs k = false) := Lib.hid (by rw [HFR0.out]; rfl)
              go_upto_region 6 with fail
              clear x0 c0 c1 c2 c3 c4 c5 c6 c7 c8 e1 e2 ct hd1
              refine wp_region_inv (by kernel_rfl) (by kernel_rfl) (fun f a w' => ∃ u23 u24 u25 u26 u27 u28 u29 u30 u31 u32 u33 u34 u35 u36 u37 u38 u39 u40 u41 u42 u43 u44 u45 u46 u47 u48 u49 u50 u51, a = ⟨#[cval D F, .pointer (some ⟨w.heap.size, 0, none⟩), u2, u3, .slice (some ⟨gt, 0, none⟩) D.gates.length D.gates.length, .int .i64 (-1), .int .i64 (k : Int), u7, u8, u9, u10, u11, .int .i64 (k : Int), .pointer (some ⟨w.heap.size, 6, none⟩), .slice (some ⟨b, off, none⟩) D.gates.length F.cg, .int .i64 (D.gates.length : Int), .bool true, .bool true, .int .i64 (-1), .bool true, .bool true, u21, u22, u23, u24, u25, u26, u27, u28, u29, u30, u31, u32, u33, u34, u35, u36, u37, u38, u39, u40, u41, u42, u43, u44, u45, u46, u47, u48, u49, u50, u51, u52, u53, u54, u55, u56, u57, u58, u59, u60, u61, u62], []⟩ ∧ Jd (fun u => Below wi.heap.size wi u) [.slice (some ⟨gt, 0, none⟩) D.gates.length D.gates.length, .int .i64 (k : Int), .pointer (some ⟨gt, k, none⟩), .bool true, .bool false, .bool false, undef, undef, undef, undef, undef, undef, undef, undef, undef, undef, .bool false, .bool false, undef, undef, undef, undef, undef, undef, undef, undef, undef, undef, .bool false] f [u23, u24, u25, u26, u27, u28, u29, u30, u31, u32, u33, u34, u35, u36, u37, u38, u39, u40, u41, u42, u43, u44, u45, u46, u47, u48, u49, u50, u51] w') ?_ ?_ ?_
              · exact ⟨_, _, _, _, _, _, _, _, _, _, _, _, _, _, _, _, _, _, _, _, _, _, _, _, _, _, _, _, _, rfl, Jd.start ((Below.refl _ _).drew) rfl⟩
              · refine all_of29 ?_ ?_ ?_ ?_ ?_ ?_ ?_ ?_ ?_ ?_ ?_ ?_ ?_ ?_ ?_ ?_ ?_ ?_ ?_ ?_ ?_ ?_ ?_ ?_ ?_ ?_ ?_ ?_ ?_
                · intro f a w1 hf he hI
                  refine ex29 hI (G := fun a => wpOp Try.prog _ _ 0 _ a w1) ?_
                  clear hI
                  intro u23 u24 u25 u26 u27 u28 u29 u30 u31 u32 u33 u34 u35 u36 u37 u38 u39 u40 u41 u42 u43 u44 u45 u46 u47 u48 u49 u50 u51 J
                  show wpOp Try.prog _ _ 0 _ _ w1
                  have hs := J.s
                  clear he
                  refine wpOp_of rfl rfl (fun K hK => ?_)
                  go_simp
                  exact hK _ _ ⟨_, _, _, _, _, _, _, _, _, _, _, _, _, _, _, _, _, _, _, _, _, _, _, _, _, _, _, _, _, rfl, J.put 0 rfl hs⟩
                · intro f a w1 hf he hI
                  refine ex29 hI (G := fun a => wpOp Try.prog _ _ 1 _ a w1) ?_
                  clear hI
                  intro u23 u24 u25 u26 u27 u28 u29 u30 u31 u32 u33 u34 u35 u36 u37 u38 u39 u40 u41 u42 u43 u44 u45 u46 u47 u48 u49 u50 u51 J
                  show wpOp Try.prog _ _ 1 _ _ w1
                  have hs := J.s
                  clear he
                  refine wpOp_of rfl rfl (fun K hK => ?_)
                  go_simp
                  exact hK _ _ ⟨_, _, _, _, _, _, _, _, _, _, _, _, _, _, _, _, _, _, _, _, _, _, _, _, _, _, _, _, _, rfl, J.put 1 rfl hs⟩
                · intro f a w1 hf he hI
                  refine ex29 hI (G := fun a => wpOp Try.prog _ _ 2 _ a w1) ?_
                  clear hI
                  intro u23 u24 u25 u26 u27 u28 u29 u30 u31 u32 u33 u34 u35 u36 u37 u38 u39 u40 u41 u42 u43 u44 u45 u46 u47 u48 u49 u50 u51 J
                  show wpOp Try.prog _ _ 2 _ _ w1
                  obtain rfl : u23 = .slice (some ⟨gt, 0, none⟩) D.gates.length D.gates.length := Option.some.inj (J.h 0 (he _ rfl ⟨0, .data⟩ (by simp) rfl))
                  obtain rfl : u24 = .int .i64 (k : Int) := Option.some.inj (J.h 1 (he _ rfl ⟨1, .data⟩ (by simp) rfl))
                  have hs := J.s
                  clear he
                  refine wpOp_of rfl rfl (fun K hK => ?_)
                  go_simp
                  exact hK _ _ ⟨_, _, _, _, _, _, _, _, _, _, _, _, _, _, _, _, _, _, _, _, _, _, _, _, _, _, _, _, _, rfl, J.put 2 rfl hs⟩
                · intro f a w1 hf he hI
                  refine ex29 hI (G := fun a => wpOp Try.prog _ _ 3 _ a w1) ?_
                  clear hI
                  intro u23 u24 u25 u26 u27 u28 u29 u30 u31 u32 u33 u34 u35 u36 u37 u38 u39 u40 u41 u42 u43 u44 u45 u46 u47 u48 u49 u50 u51 J
                  show wpOp Try.prog _ _ 3 _ _ w1
                  obtain rfl : u25 = .pointer (some ⟨gt, k, none⟩) := Option.some.inj (J.h 2 (he _ rfl ⟨2, .data⟩ (by simp) rfl))
                  have hs := J.s
                  have k11 := (KC.out _ hs).2.2.2.2.2.2.2.2.2.2.2
                  clear he
                  refine wpOp_of rfl rfl (fun K hK => ?_)
                  go_simp
                  exact hK _ _ ⟨_, _, _, _, _, _, _, _, _, _, _, _, _, _, _, _, _, _, _, _, _, _, _, _, _, _, _, _, _, rfl, J.put 3 rfl hs⟩
                · intro f a w1 hf he hI
                  refine ex29 hI (G := fun a => wpOp Try.prog _ _ 4 _ a w1) ?_
                  clear hI
                  intro u23 u24 u25 u26 u27 u28 u29 u30 u31 u32 u33 u34 u35 u36 u37 u38 u39 u40 u41 u42 u43 u44 u45 u46 u47 u48 u49 u50 u51 J
                  show wpOp Try.prog _ _ 4 _ _ w1
                  obtain rfl : u26 = .bool true := Option.some.inj (J.h 3 (he _ rfl ⟨3, .data⟩ (by simp) rfl))
                  have hs := J.s
                  clear he
                  refine wpOp_of rfl rfl (fun K hK => ?_)
                  go_simp
                  exact hK _ _ ⟨_, _, _, _, _, _, _, _, _, _, _, _, _, _, _, _, _, _, _, _, _, _, _, _, _, _, _, _, _, rfl, J.put 4 rfl hs⟩
                · intro f a w1 hf he hI
                  refine ex29 hI (G := fun a => wpOp Try.prog _ _ 5 _ a w1) ?_
                  clear hI
                  intro u23 u24 u25 u26 u27 u28 u29 u30 u31 u32 u33 u34 u35 u36 u37 u38 u39 u40 u41 u42 u43 u44 u45 u46 u47 u48 u49 u50 u51 J
                  show wpOp Try.prog _ _ 5 _ _ w1
                  obtain rfl : u27 = .bool false := Option.some.inj (J.h 4 (he _ rfl ⟨4, .data⟩ (by simp) rfl))
                  have hs := J.s
                  clear he
                  refine wpOp_of rfl rfl (fun K hK => ?_)
                  go_simp
                  exact hK _ _ ⟨_, _, _, _, _, _, _, _, _, _, _, _, _, _, _, _, _, _, _, _, _, _, _, _, _, _, _, _, _, rfl, J.put 5 rfl hs⟩
                · intro f a w1 hf he hI
                  refine ex29 hI (G := fun a => wpOp Try.prog _ _ 6 _ a w1) ?_
                  clear hI
                  intro u23 u24 u25 u26 u27 u28 u29 u30 u31 u32 u33 u34 u35 u36 u37 u38 u39 u40 u41 u42 u43 u44 u45 u46 u47 u48 u49 u50 u51 J
                  show wpOp Try.prog _ _ 6 _ _ w1
                  obtain rfl : u28 = .bool false := Option.some.inj (J.h 5 (he _ rfl ⟨5, .guard⟩ (by simp) rfl))
                  have hs := J.s
                  clear he
                  refine wpOp_no rfl (by first | rfl | simp [Region.wanted, yielded]) ?_
                  exact ⟨_, _, _, _, _, _, _, _, _, _, _, _, _, _, _, _, _, _, _, _, _, _, _, _, _, _, _, _, _, rfl, J.put 6 rfl hs⟩
                · intro f a w1 hf he hI
                  refine ex29 hI (G := fun a => wpOp Try.prog _ _ 7 _ a w1) ?_
                  clear hI
                  intro u23 u24 u25 u26 u27 u28 u29 u30 u31 u32 u33 u34 u35 u36 u37 u38 u39 u40 u41 u42 u43 u44 u45 u46 u47 u48 u49 u50 u51 J
                  show wpOp Try.prog _ _ 7 _ _ w1
                  obtain rfl : u28 = .bool false := Option.some.inj (J.h 5 (he _ rfl ⟨5, .guard⟩ (by simp) rfl))
                  have hs := J.s
                  clear he
                  refine wpOp_no rfl (by first | rfl | simp [Region.wanted, yielded]) ?_
                  exact ⟨_, _, _, _, _, _, _, _, _, _, _, _, _, _, _, _, _, _, _, _, _, _, _, _, _, _, _, _, _, rfl, J.put 7 rfl hs⟩
                · intro f a w1 hf he hI
                  refine ex29 hI (G := fun a => wpOp Try.prog _ _ 8 _ a w1) ?_
                  clear hI
                  intro u23 u24 u25 u26 u27 u28 u29 u30 u31 u32 u33 u34 u35 u36 u37 u38 u39 u40 u41 u42 u43 u44 u45 u46 u47 u48 u49 u50 u51 J
                  show wpOp Try.prog _ _ 8 _ _ w1
                  obtain rfl : u28 = .bool false := Option.some.inj (J.h 5 (he _ rfl ⟨5, .guard⟩ (by simp) rfl))
                  have hs := J.s
                  clear he
                  refine wpOp_no rfl (by first | rfl | simp [Region.wanted, yielded]) ?_
                  exact ⟨_, _, _, _, _, _, _, _, _, _, _, _, _, _, _, _, _, _, _, _, _, _, _, _, _, _, _, _, _, rfl, J.put 8 rfl hs⟩
                · intro f a w1 hf he hI
                  refine ex29 hI (G := fun a => wpOp Try.prog _ _ 9 _ a w1) ?_
                  clear hI
                  intro u23 u24 u25 u26 u27 u28 u29 u30 u31 u32 u33 u34 u35 u36 u37 u38 u39 u40 u41 u42 u43 u44 u45 u46 u47 u48 u49 u50 u51 J
                  show wpOp Try.prog _ _ 9 _ _ w1
                  obtain rfl : u28 = .bool false := Option.some.inj (J.h 5 (he _ rfl ⟨5, .guard⟩ (by simp) rfl))
                  have hs := J.s
                  clear he
                  refine wpOp_no rfl (by first | rfl | simp [Region.wanted, yielded]) ?_
                  exact ⟨_, _, _, _, _, _, _, _, _, _, _, _, _, _, _, _, _, _, _, _, _, _, _, _, _, _, _, _, _, rfl, J.put 9 rfl hs⟩
                · intro f a w1 hf he hI
                  refine ex29 hI (G := fun a => wpOp Try.prog _ _ 10 _ a w1) ?_
                  clear hI
                  intro u23 u24 u25 u26 u27 u28 u29 u30 u31 u32 u33 u34 u35 u36 u37 u38 u39 u40 u41 u42 u43 u44 u45 u46 u47 u48 u49 u50 u51 J
                  show wpOp Try.prog _ _ 10 _ _ w1
                  obtain rfl : u28 = .bool false := Option.some.inj (J.h 5 (he _ rfl ⟨5, .guard⟩ (by simp) rfl))
                  have hs := J.s
                  clear he
                  refine wpOp_no rfl (by first | rfl | simp [Region.wanted, yielded]) ?_
                  exact ⟨_, _, _, _, _, _, _, _, _, _, _, _, _, _, _, _, _, _, _, _, _, _, _, _, _, _, _, _, _, rfl, J.put 10 rfl hs⟩
                · intro f a w1 hf he hI
                  refine ex29 hI (G := fun a => wpOp Try.prog _ _ 11 _ a w1) ?_
                  clear hI
                  intro u23 u24 u25 u26 u27 u28 u29 u30 u31 u32 u33 u34 u35 u36 u37 u38 u39 u40 u41 u42 u43 u44 u45 u46 u47 u48 u49 u50 u51 J
                  show wpOp Try.prog _ _ 11 _ _ w1
                  obtain rfl : u28 = .bool false := Option.some.inj (J.h 5 (he _ rfl ⟨5, .guard⟩ (by simp) rfl))
                  have hs := J.s
                  clear he
                  refine wpOp_no rfl (by first | rfl | simp [Region.wanted, yielded]) ?_
                  exact ⟨_, _, _, _, _, _, _, _, _, _, _, _, _, _, _, _, _, _, _, _, _, _, _, _, _, _, _, _, _, rfl, J.put 11 rfl hs⟩
                · intro f a w1 hf he hI
                  refine ex29 hI (G := fun a => wpOp Try.prog _ _ 12 _ a w1) ?_
                  clear hI
                  intro u23 u24 u25 u26 u27 u28 u29 u30 u31 u32 u33 u34 u35 u36 u37 u38 u39 u40 u41 u42 u43 u44 u45 u46 u47 u48 u49 u50 u51 J
                  show wpOp Try.prog _ _ 12 _ _ w1
                  obtain rfl : u28 = .bool false := Option.some.inj (J.h 5 (he _ rfl ⟨5, .guard⟩ (by simp) rfl))
                  have hs := J.s
                  clear he
                  refine wpOp_no rfl (by first | rfl | simp [Region.wanted, yielded]) ?_
                  exact ⟨_, _, _, _, _, _, _, _, _, _, _, _, _, _, _, _, _, _, _, _, _, _, _, _, _, _, _, _, _, rfl, J.put 12 rfl hs⟩
                · intro f a w1 hf he hI
                  refine ex29 hI (G := fun a => wpOp Try.prog _ _ 13 _ a w1) ?_
                  clear hI
                  intro u23 u24 u25 u26 u27 u28 u29 u30 u31 u32 u33 u34 u35 u36 u37 u38 u39 u40 u41 u42 u43 u44 u45 u46 u47 u48 u49 u50 u51 J
                  show wpOp Try.prog _ _ 13 _ _ w1
                  obtain rfl : u28 = .bool false := Option.some.inj (J.h 5 (he _ rfl ⟨5, .guard⟩ (by simp) rfl))
                  have hs := J.s
                  clear he
                  refine wpOp_no rfl (by first | rfl | simp [Region.wanted, yielded]) ?_
                  exact ⟨_, _, _, _, _, _, _, _, _, _, _, _, _, _, _, _, _, _, _, _, _, _, _, _, _, _, _, _, _, rfl, J.put 13 rfl hs⟩
                · intro f a w1 hf he hI
                  refine ex29 hI (G := fun a => wpOp Try.prog _ _ 14 _ a w1) ?_
                  clear hI
                  intro u23 u24 u25 u26 u27 u28 u29 u30 u31 u32 u33 u34 u35 u36 u37 u38 u39 u40 u41 u42 u43 u44 u45 u46 u47 u48 u49 u50 u51 J
                  show wpOp Try.prog _ _ 14 _ _ w1
                  obtain rfl : u28 = .bool false := Option.some.inj (J.h 5 (he _ rfl ⟨5, .guard⟩ (by simp) rfl))
                  have hs := J.s
                  clear he
                  refine wpOp_no rfl (by first | rfl | simp [Region.wanted, yielded]) ?_
                  exact ⟨_, _, _, _, _, _, _, _, _, _, _, _, _, _, _, _, _, _, _, _, _, _, _, _, _, _, _, _, _, rfl, J.put 14 rfl hs⟩
                · intro f a w1 hf he hI
                  refine ex29 hI (G := fun a => wpOp Try.prog _ _ 15 _ a w1) ?_
                  clear hI
                  intro u23 u24 u25 u26 u27 u28 u29 u30 u31 u32 u33 u34 u35 u36 u37 u38 u39 u40 u41 u42 u43 u44 u45 u46 u47 u48 u49 u50 u51 J
                  show wpOp Try.prog _ _ 15 _ _ w1
                  obtain rfl : u28 = .bool false := Option.some.inj (J.h 5 (he _ rfl ⟨5, .guard⟩ (by simp) rfl))
                  have hs := J.s
                  clear he
                  refine wpOp_no rfl (by first | rfl | simp [Region.wanted, yielded]) ?_
                  exact ⟨_, _, _, _, _, _, _, _, _, _, _, _, _, _, _, _, _, _, _, _, _, _, _, _, _, _, _, _, _, rfl, J.put 15 rfl hs⟩
                · intro f a w1 hf he hI
                  refine ex29 hI (G := fun a => wpOp Try.prog _ _ 16 _ a w1) ?_
                  clear hI
                  intro u23 u24 u25 u26 u27 u28 u29 u30 u31 u32 u33 u34 u35 u36 u37 u38 u39 u40 u41 u42 u43 u44 u45 u46 u47 u48 u49 u50 u51 J
                  show wpOp Try.prog _ _ 16 _ _ w1
                  obtain rfl : u28 = .bool false := Option.some.inj (J.h 5 (he _ rfl ⟨5, .data⟩ (by simp) rfl))
                  obtain rfl : u38 = undef := Option.some.inj (J.h 15 (he _ rfl ⟨15, .data⟩ (by simp) rfl))
                  have hs := J.s
                  clear he
                  refine wpOp_of rfl rfl (fun K hK => ?_)
                  go_simp
                  exact hK _ _ ⟨_, _, _, _, _, _, _, _, _, _, _, _, _, _, _, _, _, _, _, _, _, _, _, _, _, _, _, _, _, rfl, J.put 16 rfl hs⟩
                · intro f a w1 hf he hI
                  refine ex29 hI (G := fun a => wpOp Try.prog _ _ 17 _ a w1) ?_
                  clear hI
                  intro u23 u24 u25 u26 u27 u28 u29 u30 u31 u32 u33 u34 u35 u36 u37 u38 u39 u40 u41 u42 u43 u44 u45 u46 u47 u48 u49 u50 u51 J
                  show wpOp Try.prog _ _ 17 _ _ w1
                  obtain rfl : u39 = .bool false := Option.some.inj (J.h 16 (he _ rfl ⟨16, .data⟩ (by simp) rfl))
                  have hs := J.s
                  clear he
                  refine wpOp_of rfl rfl (fun K hK => ?_)
                  go_simp
                  exact hK _ _ ⟨_, _, _, _, _, _, _, _, _, _, _, _, _, _, _, _, _, _, _, _, _, _, _, _, _, _, _, _, _, rfl, J.put 17 rfl hs⟩
                · intro f a w1 hf he hI
                  refine ex29 hI (G := fun a => wpOp Try.prog _ _ 18 _ a w1) ?_
                  clear hI
                  intro u23 u24 u25 u26 u27 u28 u29 u30 u31 u32 u33 u34 u35 u36 u37 u38 u39 u40 u41 u42 u43 u44 u45 u46 u47 u48 u49 u50 u51 J
                  show wpOp Try.prog _ _ 18 _ _ w1
                  obtain rfl : u40 = .bool false := Option.some.inj (J.h 17 (he _ rfl ⟨17, .guard⟩ (by simp) rfl))
                  have hs := J.s
                  clear he
                  refine wpOp_no rfl (by first | rfl | simp [Region.wanted, yielded]) ?_
                  exact ⟨_, _, _, _, _, _, _, _, _, _, _, _, _, _, _, _, _, _, _, _, _, _, _, _, _, _, _, _, _, rfl, J.put 18 rfl hs⟩
                · intro f a w1 hf he hI
                  refine ex29 hI (G := fun a => wpOp Try.prog _ _ 19 _ a w1) ?_
                  clear hI
                  intro u23 u24 u25 u26 u27 u28 u29 u30 u31 u32 u33 u34 u35 u36 u37 u38 u39 u40 u41 u42 u43 u44 u45 u46 u47 u48 u49 u50 u51 J
                  show wpOp Try.prog _ _ 19 _ _ w1
                  obtain rfl : u40 = .bool false := Option.some.inj (J.h 17 (he _ rfl ⟨17, .guard⟩ (by simp) rfl))
                  have hs := J.s
                  clear he
                  refine wpOp_no rfl (by first | rfl | simp [Region.wanted, yielded]) ?_
                  exact ⟨_, _, _, _, _, _, _, _, _, _, _, _, _, _, _, _, _, _, _, _, _, _, _, _, _, _, _, _, _, rfl, J.put 19 rfl hs⟩
                · intro f a w1 hf he hI
                  refine ex29 hI (G := fun a => wpOp Try.prog _ _ 20 _ a w1) ?_
                  clear hI
                  intro u23 u24 u25 u26 u27 u28 u29 u30 u31 u32 u33 u34 u35 u36 u37 u38 u39 u40 u41 u42 u43 u44 u45 u46 u47 u48 u49 u50 u51 J
                  show wpOp Try.prog _ _ 20 _ _ w1
                  obtain rfl : u40 = .bool false := Option.some.inj (J.h 17 (he _ rfl ⟨17, .guard⟩ (by simp) rfl))
                  have hs := J.s
                  clear he
                  refine wpOp_no rfl (by first | rfl | simp [Region.wanted, yielded]) ?_
                  exact ⟨_, _, _, _, _, _, _, _, _, _, _, _, _, _, _, _, _, _, _, _, _, _, _, _, _, _, _, _, _, rfl, J.put 20 rfl hs⟩
                · intro f a w1 hf he hI
                  refine ex29 hI (G := fun a => wpOp Try.prog _ _ 21 _ a w1) ?_
                  clear hI
                  intro u23 u24 u25 u26 u27 u28 u29 u30 u31 u32 u33 u34 u35 u36 u37 u38 u39 u40 u41 u42 u43 u44 u45 u46 u47 u48 u49 u50 u51 J
                  show wpOp Try.prog _ _ 21 _ _ w1
                  obtain rfl : u40 = .bool false := Option.some.inj (J.h 17 (he _ rfl ⟨17, .guard⟩ (by simp) rfl))
                  have hs := J.s
                  clear he
                  refine wpOp_no rfl (by first | rfl | simp [Region.wanted, yielded]) ?_
                  exact ⟨_, _, _, _, _, _, _, _, _, _, _, _, _, _, _, _, _, _, _, _, _, _, _, _, _, _, _, _, _, rfl, J.put 21 rfl hs⟩
                · intro f a w1 hf he hI
                  refine ex29 hI (G := fun a => wpOp Try.prog _ _ 22 _ a w1) ?_
                  clear hI
                  intro u23 u24 u25 u26 u27 u28 u29 u30 u31 u32 u33 u34 u35 u36 u37 u38 u39 u40 u41 u42 u43 u44 u45 u46 u47 u48 u49 u50 u51 J
                  show wpOp Try.prog _ _ 22 _ _ w1
                  obtain rfl : u40 = .bool false := Option.some.inj (J.h 17 (he _ rfl ⟨17, .guard⟩ (by simp) rfl))
                  have hs := J.s
                  clear he
                  refine wpOp_no rfl (by first | rfl | simp [Region.wanted, yielded]) ?_
                  exact ⟨_, _, _, _, _, _, _, _, _, _, _, _, _, _, _, _, _, _, _, _, _, _, _, _, _, _, _, _, _, rfl, J.put 22 rfl hs⟩
                · intro f a w1 hf he hI
                  refine ex29 hI (G := fun a => wpOp Try.prog _ _ 23 _ a w1) ?_
                  clear hI
                  intro u23 u24 u25 u26 u27 u28 u29 u30 u31 u32 u33 u34 u35 u36 u37 u38 u39 u40 u41 u42 u43 u44 u45 u46 u47 u48 u49 u50 u51 J
                  show wpOp Try.prog _ _ 23 _ _ w1
                  obtain rfl : u40 = .bool false := Option.some.inj (J.h 17 (he _ rfl ⟨17, .guard⟩ (by simp) rfl))
                  have hs := J.s
                  clear he
                  refine wpOp_no rfl (by first | rfl | simp [Region.wanted, yielded]) ?_
                  exact ⟨_, _, _, _, _, _, _, _, _, _, _, _, _, _, _, _, _, _, _, _, _, _, _, _, _, _, _, _, _, rfl, J.put 23 rfl hs⟩
                · intro f a w1 hf he hI
                  refine ex29 hI (G := fun a => wpOp Try.prog _ _ 24 _ a w1) ?_
                  clear hI
                  intro u23 u24 u25 u26 u27 u28 u29 u30 u31 u32 u33 u34 u35 u36 u37 u38 u39 u40 u41 u42 u43 u44 u45 u46 u47 u48 u49 u50 u51 J
                  show wpOp Try.prog _ _ 24 _ _ w1
                  obtain rfl : u40 = .bool false := Option.some.inj (J.h 17 (he _ rfl ⟨17, .guard⟩ (by simp) rfl))
                  have hs := J.s
                  clear he
                  refine wpOp_no rfl (by first | rfl | simp [Region.wanted, yielded]) ?_
                  exact ⟨_, _, _, _, _, _, _, _, _, _, _, _, _, _, _, _, _, _, _, _, _, _, _, _, _, _, _, _, _, rfl, J.put 24 rfl hs⟩
                · intro f a w1 hf he hI
                  refine ex29 hI (G := fun a => wpOp Try.prog _ _ 25 _ a w1) ?_
                  clear hI
                  intro u23 u24 u25 u26 u27 u28 u29 u30 u31 u32 u33 u34 u35 u36 u37 u38 u39 u40 u41 u42 u43 u44 u45 u46 u47 u48 u49 u50 u51 J
                  show wpOp Try.prog _ _ 25 _ _ w1
                  obtain rfl : u40 = .bool false := Option.some.inj (J.h 17 (he _ rfl ⟨17, .guard⟩ (by simp) rfl))
                  have hs := J.s
                  clear he
                  refine wpOp_no rfl (by first | rfl | simp [Region.wanted, yielded]) ?_
                  exact ⟨_, _, _, _, _, _, _, _, _, _, _, _, _, _, _, _, _, _, _, _, _, _, _, _, _, _, _, _, _, rfl, J.put 25 rfl hs⟩
                · intro f a w1 hf he hI
                  refine ex29 hI (G := fun a => wpOp Try.prog _ _ 26 _ a w1) ?_
                  clear hI
                  intro u23 u24 u25 u26 u27 u28 u29 u30 u31 u32 u33 u34 u35 u36 u37 u38 u39 u40 u41 u42 u43 u44 u45 u46 u47 u48 u49 u50 u51 J
                  show wpOp Try.prog _ _ 26 _ _ w1
                  obtain rfl : u40 = .bool false := Option.some.inj (J.h 17 (he _ rfl ⟨17, .guard⟩ (by simp) rfl))
                  have hs := J.s
                  clear he
                  refine wpOp_no rfl (by first | rfl | simp [Region.wanted, yielded]) ?_
                  exact ⟨_, _, _, _, _, _, _, _, _, _, _, _, _, _, _, _, _, _, _, _, _, _, _, _, _, _, _, _, _, rfl, J.put 26 rfl hs⟩
                · intro f a w1 hf he hI
                  refine ex29 hI (G := fun a => wpOp Try.prog _ _ 27 _ a w1) ?_
                  clear hI
                  intro u23 u24 u25 u26 u27 u28 u29 u30 u31 u32 u33 u34 u35 u36 u37 u38 u39 u40 u41 u42 u43 u44 u45 u46 u47 u48 u49 u50 u51 J
                  show wpOp Try.prog _ _ 27 _ _ w1
                  obtain rfl : u40 = .bool false := Option.some.inj (J.h 17 (he _ rfl ⟨17, .guard⟩ (by simp) rfl))
                  have hs := J.s
                  clear he
                  refine wpOp_no rfl (by first | rfl | simp [Region.wanted, yielded]) ?_
                  exact ⟨_, _, _, _, _, _, _, _, _, _, _, _, _, _, _, _, _, _, _, _, _, _, _, _, _, _, _, _, _, rfl, J.put 27 rfl hs⟩
                · intro f a w1 hf he hI
                  refine ex29 hI (G := fun a => wpOp Try.prog _ _ 28 _ a w1) ?_
                  clear hI
                  intro u23 u24 u25 u26 u27 u28 u29 u30 u31 u32 u33 u34 u35 u36 u37 u38 u39 u40 u41 u42 u43 u44 u45 u46 u47 u48 u49 u50 u51 J
                  show wpOp Try.prog _ _ 28 _ _ w1
                  obtain rfl : u40 = .bool false := Option.some.inj (J.h 17 (he _ rfl ⟨17, .data⟩ (by simp) rfl))
                  obtain rfl : u50 = undef := Option.some.inj (J.h 27 (he _ rfl ⟨27, .data⟩ (by simp) rfl))
                  have hs := J.s
                  clear he
                  refine wpOp_of rfl rfl (fun K hK => ?_)
                  go_simp
                  exact hK _ _ ⟨_, _, _, _, _, _, _, _, _, _, _, _, _, _, _, _, _, _, _, _, _, _, _, _, _, _, _, _, _, rfl, J.put 28 rfl hs⟩
              · intro f a w1 hall hI
                obtain ⟨u23, u24, u25, u26, u27, u28, u29, u30, u31, u32, u33, u34, u35, u36, u37, u38, u39, u40, u41, u42, u43, u44, u45, u46, u47, u48, u49, u50, u51, rfl, J⟩ := hI
                obtain rfl : u51 = .bool false := Option.some.inj (J.h 28 (hall 28 (by decide)))
                have hs := J.s
                clear J hall
                have HZ2 : Hid ((-1 : Int) = nextZ D.gates bs (k + 1)) := Lib.hid (by unfold nextZ; rw [next_no HNO.out HFR.out])
                have HBW2 : Hid (Below wo.heap.size wo w1) := Lib.hid (HBW.out.trans (hs.mono HBW.out.size))
                clear KC
                go_wp2_with fail
                go_roundw
                case rel => exact ⟨k + 1, -1, by omega, by go_num, rfl, HZ2, HBW2⟩
                case measure => simp [intOf]; omega

            | false =>
              cases wa with
              | true =>
                have HFR : Hid (freeB D.gates bs k = false) := Lib.hid (by rw [HFR0.out]; rfl)
                go_upto_region 6 with fail
                clear x0 c0 c1 c2 c3 c4 c5 c6 c7 c8 e1 e2 ct hd1
                refine wp_region_inv (by kernel_rfl) (by kernel_rfl) (fun f a w' => ∃ u23 u24 u25 u26 u27 u28 u29 u30 u31 u32 u33 u34 u35 u36 u37 u38 u39 u40 u41 u42 u43 u44 u45 u46 u47 u48 u49 u50 u51, a = ⟨#[cval D F, .pointer (some ⟨w.heap.size, 0, none⟩), u2, u3, .slice (some ⟨gt, 0, none⟩) D.gates.length D.gates.length, .int .i64 (-1), .int .i64 (k : Int), u7, u8, u9, u10, u11, .int .i64 (k : Int), .pointer (some ⟨w.heap.size, 6, none⟩), .slice (some ⟨b, off, none⟩) D.gates.length F.cg, .int .i64 (D.gates.length : Int), .bool true, .bool true, .int .i64 (-1), .bool true, .bool true, u21, u22, u23, u24, u25, u26, u27, u28, u29, u30, u31, u32, u33, u34, u35, u36, u37, u38, u39, u40, u41, u42, u43, u44, u45, u46, u47, u48, u49, u50, u51, u52, u53, u54, u55, u56, u57, u58, u59, u60, u61, u62], []⟩ ∧ Jd (fun u => Below wi.heap.size wi u) [.slice (some ⟨gt, 0, none⟩) D.gates.length D.gates.length, .int .i64 (k : Int), .pointer (some ⟨gt, k, none⟩), .bool false, .bool true, .bool true, .agg #[.int .i64 D.max, .slice F.ai D.ins.length F.ci, .slice F.al D.lats.length F.cl, .slice F.ao D.outs.length F.co, .slice F.ab D.bads.length F.cb, .slice F.ac D.cons.length F.cc, .slice (some ⟨b, off, none⟩) D.gates.length F.cg, .slice F.as_ D.syms.length F.cs, .string D.com], .slice (some ⟨gt, 0, none⟩) D.gates.length D.gates.length, .pointer (some ⟨w.heap.size, 6, none⟩), .slice (some ⟨b, off, none⟩) D.gates.length F.cg, .int .i64 (k : Int), .pointer (some ⟨b, off + k * 3, none⟩), .pointer (some ⟨b, off + k * 3 + 1, none⟩), .int .i64 ga, .bool true, .bool false, .bool false, .bool false, undef, undef, undef, undef, undef, undef, undef, undef, undef, undef, .bool false] f [u23, u24, u25, u26, u27, u28, u29, u30, u31, u32, u33, u34, u35, u36, u37, u38, u39, u40, u41, u42, u43, u44, u45, u46, u47, u48, u49, u50, u51] w') ?_ ?_ ?_
                · exact ⟨_, _, _, _, _, _, _, _, _, _, _, _, _, _, _, _, _, _, _, _, _, _, _, _, _, _, _, _, _, rfl, Jd.start ((Below.refl _ _).drew) rfl⟩
                · refine all_of29 ?_ ?_ ?_ ?_ ?_ ?_ ?_ ?_ ?_ ?_ ?_ ?_ ?_ ?_ ?_ ?_ ?_ ?_ ?_ ?_ ?_ ?_ ?_ ?_ ?_ ?_ ?_ ?_ ?_
                  · intro f a w1 hf he hI
                    refine ex29 hI (G := fun a => wpOp Try.prog _ _ 0 _ a w1) ?_
                    clear hI
                    intro u23 u24 u25 u26 u27 u28 u29 u30 u31 u32 u33 u34 u35 u36 u37 u38 u39 u40 u41 u42 u43 u44 u45 u46 u47 u48 u49 u50 u51 J
                    show wpOp Try.prog _ _ 0 _ _ w1
                    have hs := J.s
                    clear he
                    refine wpOp_of rfl rfl (fun K hK => ?_)
                    go_simp
                    exact hK _ _ ⟨_, _, _, _, _, _, _, _, _, _, _, _, _, _, _, _, _, _, _, _, _, _, _, _, _, _, _, _, _, rfl, J.put 0 rfl hs⟩
                  · intro f a w1 hf he hI
                    refine ex29 hI (G := fun a => wpOp Try.prog _ _ 1 _ a w1) ?_
                    clear hI
                    intro u23 u24 u25 u26 u27 u28 u29 u30 u31 u32 u33 u34 u35 u36 u37 u38 u39 u40 u41 u42 u43 u44 u45 u46 u47 u48 u49 u50 u51 J
                    show wpOp Try.prog _ _ 1 _ _ w1
                    have hs := J.s
                    clear he
                    refine wpOp_of rfl rfl (fun K hK => ?_)
                    go_simp
                    exact hK _ _ ⟨_, _, _, _, _, _, _, _, _, _, _, _, _, _, _, _, _, _, _, _, _, _, _, _, _, _, _, _, _, rfl, J.put 1 rfl hs⟩
                  · intro f a w1 hf he hI
                    refine ex29 hI (G := fun a => wpOp Try.prog _ _ 2 _ a w1) ?_
                    clear hI
                    intro u23 u24 u25 u26 u27 u28 u29 u30 u31 u32 u33 u34 u35 u36 u37 u38 u39 u40 u41 u42 u43 u44 u45 u46 u47 u48 u49 u50 u51 J
                    show wpOp Try.prog _ _ 2 _ _ w1
                    obtain rfl : u23 = .slice (some ⟨gt, 0, none⟩) D.gates.length D.gates.length := Option.some.inj (J.h 0 (he _ rfl ⟨0, .data⟩ (by simp) rfl))
                    obtain rfl : u24 = .int .i64 (k : Int) := Option.some.inj (J.h 1 (he _ rfl ⟨1, .data⟩ (by simp) rfl))
                    have hs := J.s
                    clear he
                    refine wpOp_of rfl rfl (fun K hK => ?_)
                    go_simp
                    exact hK _ _ ⟨_, _, _, _, _, _, _, _, _, _, _, _, _, _, _, _, _, _, _, _, _, _, _, _, _, _, _, _, _, rfl, J.put 2 rfl hs⟩
                  · intro f a w1 hf he hI
                    refine ex29 hI (G := fun a => wpOp Try.prog _ _ 3 _ a w1) ?_
                    clear hI
                    intro u23 u24 u25 u26 u27 u28 u29 u30 u31 u32 u33 u34 u35 u36 u37 u38 u39 u40 u41 u42 u43 u44 u45 u46 u47 u48 u49 u50 u51 J
                    show wpOp Try.prog _ _ 3 _ _ w1
                    obtain rfl : u25 = .pointer (some ⟨gt, k, none⟩) := Option.some.inj (J.h 2 (he _ rfl ⟨2, .data⟩ (by simp) rfl))
                    have hs := J.s
                    have k11 := (KC.out _ hs).2.2.2.2.2.2.2.2.2.2.2
                    clear he
                    refine wpOp_of rfl rfl (fun K hK => ?_)
                    go_simp
                    exact hK _ _ ⟨_, _, _, _, _, _, _, _, _, _, _, _, _, _, _, _, _, _, _, _, _, _, _, _, _, _, _, _, _, rfl, J.put 3 rfl hs⟩
                  · intro f a w1 hf he hI
                    refine ex29 hI (G := fun a => wpOp Try.prog _ _ 4 _ a w1) ?_
                    clear hI
                    intro u23 u24 u25 u26 u27 u28 u29 u30 u31 u32 u33 u34 u35 u36 u37 u38 u39 u40 u41 u42 u43 u44 u45 u46 u47 u48 u49 u50 u51 J
                    show wpOp Try.prog _ _ 4 _ _ w1
                    obtain rfl : u26 = .bool false := Option.some.inj (J.h 3 (he _ rfl ⟨3, .data⟩ (by simp) rfl))
                    have hs := J.s
                    clear he
                    refine wpOp_of rfl rfl (fun K hK => ?_)
                    go_simp
                    exact hK _ _ ⟨_, _, _, _, _, _, _, _, _, _, _, _, _, _, _, _, _, _, _, _, _, _, _, _, _, _, _, _, _, rfl, J.put 4 rfl hs⟩
                  · intro f a w1 hf he hI
                    refine ex29 hI (G := fun a => wpOp Try.prog _ _ 5 _ a w1) ?_
                    clear hI
                    intro u23 u24 u25 u26 u27 u28 u29 u30 u31 u32 u33 u34 u35 u36 u37 u38 u39 u40 u41 u42 u43 u44 u45 u46 u47 u48 u49 u50 u51 J
                    show wpOp Try.prog _ _ 5 _ _ w1
                    obtain rfl : u27 = .bool true := Option.some.inj (J.h 4 (he _ rfl ⟨4, .data⟩ (by simp) rfl))
                    have hs := J.s
                    clear he
                    refine wpOp_of rfl rfl (fun K hK => ?_)
                    go_simp
                    exact hK _ _ ⟨_, _, _, _, _, _, _, _, _, _, _, _, _, _, _, _, _, _, _, _, _, _, _, _, _, _, _, _, _, rfl, J.put 5 rfl hs⟩
                  · intro f a w1 hf he hI
                    refine ex29 hI (G := fun a => wpOp Try.prog _ _ 6 _ a w1) ?_
                    clear hI
                    intro u23 u24 u25 u26 u27 u28 u29 u30 u31 u32 u33 u34 u35 u36 u37 u38 u39 u40 u41 u42 u43 u44 u45 u46 u47 u48 u49 u50 u51 J
                    show wpOp Try.prog _ _ 6 _ _ w1
                    obtain rfl : u28 = .bool true := Option.some.inj (J.h 5 (he _ rfl ⟨5, .guard⟩ (by simp) rfl))
                    have hs := J.s
                    obtain ⟨k0, k1, k2, k3, k4, k5, k6, k7, k8, -, -, -⟩ := KC.out _ hs
                    clear he
                    refine wpOp_yes rfl (by first | rfl | simp [Region.wanted, yielded]) (fun K hK => ?_)
                    go_simp
                    exact hK _ _ ⟨_, _, _, _, _, _, _, _, _, _, _, _, _, _, _, _, _, _, _, _, _, _, _, _, _, _, _, _, _, rfl, J.put 6 rfl hs⟩
                  · intro f a w1 hf he hI
                    refine ex29 hI (G := fun a => wpOp Try.prog _ _ 7 _ a w1) ?_
                    clear hI
                    intro u23 u24 u25 u26 u27 u28 u29 u30 u31 u32 u33 u34 u35 u36 u37 u38 u39 u40 u41 u42 u43 u44 u45 u46 u47 u48 u49 u50 u51 J
                    show wpOp Try.prog _ _ 7 _ _ w1
                    obtain rfl : u28 = .bool true := Option.some.inj (J.h 5 (he _ rfl ⟨5, .guard⟩ (by simp) rfl))
                    have hs := J.s
                    clear he
                    refine wpOp_yes rfl (by first | rfl | simp [Region.wanted, yielded]) (fun K hK => ?_)
                    go_simp
                    exact hK _ _ ⟨_, _, _, _, _, _, _, _, _, _, _, _, _, _, _, _, _, _, _, _, _, _, _, _, _, _, _, _, _, rfl, J.put 7 rfl hs⟩
                  · intro f a w1 hf he hI
                    refine ex29 hI (G := fun a => wpOp Try.prog _ _ 8 _ a w1) ?_
                    clear hI
                    intro u23 u24 u25 u26 u27 u28 u29 u30 u31 u32 u33 u34 u35 u36 u37 u38 u39 u40 u41 u42 u43 u44 u45 u46 u47 u48 u49 u50 u51 J
                    show wpOp Try.prog _ _ 8 _ _ w1
                    obtain rfl : u28 = .bool true := Option.some.inj (J.h 5 (he _ rfl ⟨5, .guard⟩ (by simp) rfl))
                    have hs := J.s
                    clear he
                    refine wpOp_yes rfl (by first | rfl | simp [Region.wanted, yielded]) (fun K hK => ?_)
                    go_simp
                    exact hK _ _ ⟨_, _, _, _, _, _, _, _, _, _, _, _, _, _, _, _, _, _, _, _, _, _, _, _, _, _, _, _, _, rfl, J.put 8 rfl hs⟩
                  · intro f a w1 hf he hI
                    refine ex29 hI (G := fun a => wpOp Try.prog _ _ 9 _ a w1) ?_
                    clear hI
                    intro u23 u24 u25 u26 u27 u28 u29 u30 u31 u32 u33 u34 u35 u36 u37 u38 u39 u40 u41 u42 u43 u44 u45 u46 u47 u48 u49 u50 u51 J
                    show wpOp Try.prog _ _ 9 _ _ w1
                    obtain rfl : u28 = .bool true := Option.some.inj (J.h 5 (he _ rfl ⟨5, .guard⟩ (by simp) rfl))
                    obtain rfl : u31 = .pointer (some ⟨w.heap.size, 6, none⟩) := Option.some.inj (J.h 8 (he _ rfl ⟨8, .data⟩ (by simp) rfl))
                    have hs := J.s
                    have k6 := (KC.out _ hs).2.2.2.2.2.2.1
                    clear he
                    refine wpOp_yes rfl (by first | rfl | simp [Region.wanted, yielded]) (fun K hK => ?_)
                    go_simp
                    exact hK _ _ ⟨_, _, _, _, _, _, _, _, _, _, _, _, _, _, _, _, _, _, _, _, _, _, _, _, _, _, _, _, _, rfl, J.put 9 rfl hs⟩
                  · intro f a w1 hf he hI
                    refine ex29 hI (G := fun a => wpOp Try.prog _ _ 10 _ a w1) ?_
                    clear hI
                    intro u23 u24 u25 u26 u27 u28 u29 u30 u31 u32 u33 u34 u35 u36 u37 u38 u39 u40 u41 u42 u43 u44 u45 u46 u47 u48 u49 u50 u51 J
                    show wpOp Try.prog _ _ 10 _ _ w1
                    obtain rfl : u28 = .bool true := Option.some.inj (J.h 5 (he _ rfl ⟨5, .guard⟩ (by simp) rfl))
                    have hs := J.s
                    clear he
                    refine wpOp_yes rfl (by first | rfl | simp [Region.wanted, yielded]) (fun K hK => ?_)
                    go_simp
                    exact hK _ _ ⟨_, _, _, _, _, _, _, _, _, _, _, _, _, _, _, _, _, _, _, _, _, _, _, _, _, _, _, _, _, rfl, J.put 10 rfl hs⟩
                  · intro f a w1 hf he hI
                    refine ex29 hI (G := fun a => wpOp Try.prog _ _ 11 _ a w1) ?_
                    clear hI
                    intro u23 u24 u25 u26 u27 u28 u29 u30 u31 u32 u33 u34 u35 u36 u37 u38 u39 u40 u41 u42 u43 u44 u45 u46 u47 u48 u49 u50 u51 J
                    show wpOp Try.prog _ _ 11 _ _ w1
                    obtain rfl : u28 = .bool true := Option.some.inj (J.h 5 (he _ rfl ⟨5, .guard⟩ (by simp) rfl))
                    obtain rfl : u32 = .slice (some ⟨b, off, none⟩) D.gates.length F.cg := Option.some.inj (J.h 9 (he _ rfl ⟨9, .data⟩ (by simp) rfl))
                    obtain rfl : u33 = .int .i64 (k : Int) := Option.some.inj (J.h 10 (he _ rfl ⟨10, .data⟩ (by simp) rfl))
                    have hs := J.s
                    clear he
                    refine wpOp_yes rfl (by first | rfl | simp [Region.wanted, yielded]) (fun K hK => ?_)
                    go_simp
                    exact hK _ _ ⟨_, _, _, _, _, _, _, _, _, _, _, _, _, _, _, _, _, _, _, _, _, _, _, _, _, _, _, _, _, rfl, J.put 11 rfl hs⟩
                  · intro f a w1 hf he hI
                    refine ex29 hI (G := fun a => wpOp Try.prog _ _ 12 _ a w1) ?_
                    clear hI
                    intro u23 u24 u25 u26 u27 u28 u29 u30 u31 u32 u33 u34 u35 u36 u37 u38 u39 u40 u41 u42 u43 u44 u45 u46 u47 u48 u49 u50 u51 J
                    show wpOp Try.prog _ _ 12 _ _ w1
                    obtain rfl : u28 = .bool true := Option.some.inj (J.h 5 (he _ rfl ⟨5, .guard⟩ (by simp) rfl))
                    obtain rfl : u34 = .pointer (some ⟨b, off + k * 3, none⟩) := Option.some.inj (J.h 11 (he _ rfl ⟨11, .data⟩ (by simp) rfl))
                    have hs := J.s
                    clear he
                    refine wpOp_yes rfl (by first | rfl | simp [Region.wanted, yielded]) (fun K hK => ?_)
                    go_simp
                    exact hK _ _ ⟨_, _, _, _, _, _, _, _, _, _, _, _, _, _, _, _, _, _, _, _, _, _, _, _, _, _, _, _, _, rfl, J.put 12 rfl hs⟩
                  · intro f a w1 hf he hI
                    refine ex29 hI (G := fun a => wpOp Try.prog _ _ 13 _ a w1) ?_
                    clear hI
                    intro u23 u24 u25 u26 u27 u28 u29 u30 u31 u32 u33 u34 u35 u36 u37 u38 u39 u40 u41 u42 u43 u44 u45 u46 u47 u48 u49 u50 u51 J
                    show wpOp Try.prog _ _ 13 _ _ w1
                    obtain rfl : u28 = .bool true := Option.some.inj (J.h 5 (he _ rfl ⟨5, .guard⟩ (by simp) rfl))
                    obtain rfl : u35 = .pointer (some ⟨b, off + k * 3 + 1, none⟩) := Option.some.inj (J.h 12 (he _ rfl ⟨12, .data⟩ (by simp) rfl))
                    have hs := J.s
                    have k9 := (KC.out _ hs).2.2.2.2.2.2.2.2.2.1
                    clear he
                    refine wpOp_yes rfl (by first | rfl | simp [Region.wanted, yielded]) (fun K hK => ?_)
                    go_simp
                    exact hK _ _ ⟨_, _, _, _, _, _, _, _, _, _, _, _, _, _, _, _, _, _, _, _, _, _, _, _, _, _, _, _, _, rfl, J.put 13 rfl hs⟩
                  · intro f a w1 hf he hI
                    refine ex29 hI (G := fun a => wpOp Try.prog _ _ 14 _ a w1) ?_
                    clear hI
                    intro u23 u24 u25 u26 u27 u28 u29 u30 u31 u32 u33 u34 u35 u36 u37 u38 u39 u40 u41 u42 u43 u44 u45 u46 u47 u48 u49 u50 u51 J
                    show wpOp Try.prog _ _ 14 _ _ w1
                    obtain rfl : u28 = .bool true := Option.some.inj (J.h 5 (he _ rfl ⟨5, .guard⟩ (by simp) rfl))
                    obtain rfl : u29 = .agg #[.int .i64 D.max, .slice F.ai D.ins.length F.ci, .slice F.al D.lats.length F.cl, .slice F.ao D.outs.length F.co, .slice F.ab D.bads.length F.cb, .slice F.ac D.cons.length F.cc, .slice (some ⟨b, off, none⟩) D.gates.length F.cg, .slice F.as_ D.syms.length F.cs, .string D.com] := Option.some.inj (J.h 6 (he _ rfl ⟨6, .data⟩ (by simp) rfl))
                    obtain rfl : u30 = .slice (some ⟨gt, 0, none⟩) D.gates.length D.gates.length := Option.some.inj (J.h 7 (he _ rfl ⟨7, .data⟩ (by simp) rfl))
                    obtain rfl : u36 = .int .i64 ga := Option.some.inj (J.h 13 (he _ rfl ⟨13, .data⟩ (by simp) rfl))
                    have hs := J.s
                    clear he
                    refine wpOp_yes rfl (by first | rfl | simp [Region.wanted, yielded]) (fun K hK => ?_)
                    go_simp
                    go_wp2_with (go_at_call 31; refine (HCA.out _ hs).mono ?_; rintro e w2 ⟨rfl, hb⟩); have hs2 := hs.trans (hb.mono hs.size)
                    exact ⟨_, _, _, _, _, _, _, _, _, _, _, _, _, _, _, _, _, _, _, _, _, _, _, _, _, _, _, _, _, rfl, J.put 14 rfl hs2⟩
                  · intro f a w1 hf he hI
                    refine ex29 hI (G := fun a => wpOp Try.prog _ _ 15 _ a w1) ?_
                    clear hI
                    intro u23 u24 u25 u26 u27 u28 u29 u30 u31 u32 u33 u34 u35 u36 u37 u38 u39 u40 u41 u42 u43 u44 u45 u46 u47 u48 u49 u50 u51 J
                    show wpOp Try.prog _ _ 15 _ _ w1
                    obtain rfl : u28 = .bool true := Option.some.inj (J.h 5 (he _ rfl ⟨5, .guard⟩ (by simp) rfl))
                    obtain rfl : u37 = .bool true := Option.some.inj (J.h 14 (he _ rfl ⟨14, .data⟩ (by simp) rfl))
                    have hs := J.s
                    clear he
                    refine wpOp_yes rfl (by first | rfl | simp [Region.wanted, yielded]) (fun K hK => ?_)
                    go_simp
                    exact hK _ _ ⟨_, _, _, _, _, _, _, _, _, _, _, _, _, _, _, _, _, _, _, _, _, _, _, _, _, _, _, _, _, rfl, J.put 15 rfl hs⟩
                  · intro f a w1 hf he hI
                    refine ex29 hI (G := fun a => wpOp Try.prog _ _ 16 _ a w1) ?_
                    clear hI
                    intro u23 u24 u25 u26 u27 u28 u29 u30 u31 u32 u33 u34 u35 u36 u37 u38 u39 u40 u41 u42 u43 u44 u45 u46 u47 u48 u49 u50 u51 J
                    show wpOp Try.prog _ _ 16 _ _ w1
                    obtain rfl : u28 = .bool true := Option.some.inj (J.h 5 (he _ rfl ⟨5, .data⟩ (by simp) rfl))
                    obtain rfl : u38 = .bool false := Option.some.inj (J.h 15 (he _ rfl ⟨15, .data⟩ (by simp) rfl))
                    have hs := J.s
                    clear he
                    refine wpOp_of rfl rfl (fun K hK => ?_)
                    go_simp
                    exact hK _ _ ⟨_, _, _, _, _, _, _, _, _, _, _, _, _, _, _, _, _, _, _, _, _, _, _, _, _, _, _, _, _, rfl, J.put 16 rfl hs⟩
                  · intro f a w1 hf he hI
                    refine ex29 hI (G := fun a => wpOp Try.prog _ _ 17 _ a w1) ?_
                    clear hI
                    intro u23 u24 u25 u26 u27 u28 u29 u30 u31 u32 u33 u34 u35 u36 u37 u38 u39 u40 u41 u42 u43 u44 u45 u46 u47 u48 u49 u50 u51 J
                    show wpOp Try.prog _ _ 17 _ _ w1
                    obtain rfl : u39 = .bool false := Option.some.inj (J.h 16 (he _ rfl ⟨16, .data⟩ (by simp) rfl))
                    have hs := J.s
                    clear he
                    refine wpOp_of rfl rfl (fun K hK => ?_)
                    go_simp
                    exact hK _ _ ⟨_, _, _, _, _, _, _, _, _, _, _, _, _, _, _, _, _, _, _, _, _, _, _, _, _, _, _, _, _, rfl, J.put 17 rfl hs⟩
                  · intro f a w1 hf he hI
                    refine ex29 hI (G := fun a => wpOp Try.prog _ _ 18 _ a w1) ?_
                    clear hI
                    intro u23 u24 u25 u26 u27 u28 u29 u30 u31 u32 u33 u34 u35 u36 u37 u38 u39 u40 u41 u42 u43 u44 u45 u46 u47 u48 u49 u50 u51 J
                    show wpOp Try.prog _ _ 18 _ _ w1
                    obtain rfl : u40 = .bool false := Option.some.inj (J.h 17 (he _ rfl ⟨17, .guard⟩ (by simp) rfl))
                    have hs := J.s
                    clear he
                    refine wpOp_no rfl (by first | rfl | simp [Region.wanted, yielded]) ?_
                    exact ⟨_, _, _, _, _, _, _, _, _, _, _, _, _, _, _, _, _, _, _, _, _, _, _, _, _, _, _, _, _, rfl, J.put 18 rfl hs⟩
                  · intro f a w1 hf he hI
                    refine ex29 hI (G := fun a => wpOp Try.prog _ _ 19 _ a w1) ?_
                    clear hI
                    intro u23 u24 u25 u26 u27 u28 u29 u30 u31 u32 u33 u34 u35 u36 u37 u38 u39 u40 u41 u42 u43 u44 u45 u46 u47 u48 u49 u50 u51 J
                    show wpOp Try.prog _ _ 19 _ _ w1
                    obtain rfl : u40 = .bool false := Option.some.inj (J.h 17 (he _ rfl ⟨17, .guard⟩ (by simp) rfl))
                    have hs := J.s
                    clear he
                    refine wpOp_no rfl (by first | rfl | simp [Region.wanted, yielded]) ?_
                    exact ⟨_, _, _, _, _, _, _, _, _, _, _, _, _, _, _, _, _, _, _, _, _, _, _, _, _, _, _, _, _, rfl, J.put 19 rfl hs⟩
                  · intro f a w1 hf he hI
                    refine ex29 hI (G := fun a => wpOp Try.prog _ _ 20 _ a w1) ?_
                    clear hI
                    intro u23 u24 u25 u26 u27 u28 u29 u30 u31 u32 u33 u34 u35 u36 u37 u38 u39 u40 u41 u42 u43 u44 u45 u46 u47 u48 u49 u50 u51 J
                    show wpOp Try.prog _ _ 20 _ _ w1
                    obtain rfl : u40 = .bool false := Option.some.inj (J.h 17 (he _ rfl ⟨17, .guard⟩ (by simp) rfl))
                    have hs := J.s
                    clear he
                    refine wpOp_no rfl (by first | rfl | simp [Region.wanted, yielded]) ?_
                    exact ⟨_, _, _, _, _, _, _, _, _, _, _, _, _, _, _, _, _, _, _, _, _, _, _, _, _, _, _, _, _, rfl, J.put 20 rfl hs⟩
                  · intro f a w1 hf he hI
                    refine ex29 hI (G := fun a => wpOp Try.prog _ _ 21 _ a w1) ?_
                    clear hI
                    intro u23 u24 u25 u26 u27 u28 u29 u30 u31 u32 u33 u34 u35 u36 u37 u38 u39 u40 u41 u42 u43 u44 u45 u46 u47 u48 u49 u50 u51 J
                    show wpOp Try.prog _ _ 21 _ _ w1
                    obtain rfl : u40 = .bool false := Option.some.inj (J.h 17 (he _ rfl ⟨17, .guard⟩ (by simp) rfl))
                    have hs := J.s
                    clear he
                    refine wpOp_no rfl (by first | rfl | simp [Region.wanted, yielded]) ?_
                    exact ⟨_, _, _, _, _, _, _, _, _, _, _, _, _, _, _, _, _, _, _, _, _, _, _, _, _, _, _, _, _, rfl, J.put 21 rfl hs⟩
                  · intro f a w1 hf he hI
                    refine ex29 hI (G := fun a => wpOp Try.prog _ _ 22 _ a w1) ?_
                    clear hI
                    intro u23 u24 u25 u26 u27 u28 u29 u30 u31 u32 u33 u34 u35 u36 u37 u38 u39 u40 u41 u42 u43 u44 u45 u46 u47 u48 u49 u50 u51 J
                    show wpOp Try.prog _ _ 22 _ _ w1
                    obtain rfl : u40 = .bool false := Option.some.inj (J.h 17 (he _ rfl ⟨17, .guard⟩ (by simp) rfl))
                    have hs := J.s
                    clear he
                    refine wpOp_no rfl (by first | rfl | simp [Region.wanted, yielded]) ?_
                    exact ⟨_, _, _, _, _, _, _, _, _, _, _, _, _, _, _, _, _, _, _, _, _, _, _, _, _, _, _, _, _, rfl, J.put 22 rfl hs⟩
                  · intro f a w1 hf he hI
                    refine ex29 hI (G := fun a => wpOp Try.prog _ _ 23 _ a w1) ?_
                    clear hI
                    intro u23 u24 u25 u26 u27 u28 u29 u30 u31 u32 u33 u34 u35 u36 u37 u38 u39 u40 u41 u42 u43 u44 u45 u46 u47 u48 u49 u50 u51 J
                    show wpOp Try.prog _ _ 23 _ _ w1
                    obtain rfl : u40 = .bool false := Option.some.inj (J.h 17 (he _ rfl ⟨17, .guard⟩ (by simp) rfl))
                    have hs := J.s
                    clear he
                    refine wpOp_no rfl (by first | rfl | simp [Region.wanted, yielded]) ?_
                    exact ⟨_, _, _, _, _, _, _, _, _, _, _, _, _, _, _, _, _, _, _, _, _, _, _, _, _, _, _, _, _, rfl, J.put 23 rfl hs⟩
                  · intro f a w1 hf he hI
                    refine ex29 hI (G := fun a => wpOp Try.prog _ _ 24 _ a w1) ?_
                    clear hI
                    intro u23 u24 u25 u26 u27 u28 u29 u30 u31 u32 u33 u34 u35 u36 u37 u38 u39 u40 u41 u42 u43 u44 u45 u46 u47 u48 u49 u50 u51 J
                    show wpOp Try.prog _ _ 24 _ _ w1
                    obtain rfl : u40 = .bool false := Option.some.inj (J.h 17 (he _ rfl ⟨17, .guard⟩ (by simp) rfl))
                    have hs := J.s
                    clear he
                    refine wpOp_no rfl (by first | rfl | simp [Region.wanted, yielded]) ?_
                    exact ⟨_, _, _, _, _, _, _, _, _, _, _, _, _, _, _, _, _, _, _, _, _, _, _, _, _, _, _, _, _, rfl, J.put 24 rfl hs⟩
                  · intro f a w1 hf he hI
                    refine ex29 hI (G := fun a => wpOp Try.prog _ _ 25 _ a w1) ?_
                    clear hI
                    intro u23 u24 u25 u26 u27 u28 u29 u30 u31 u32 u33 u34 u35 u36 u37 u38 u39 u40 u41 u42 u43 u44 u45 u46 u47 u48 u49 u50 u51 J
                    show wpOp Try.prog _ _ 25 _ _ w1
                    obtain rfl : u40 = .bool false := Option.some.inj (J.h 17 (he _ rfl ⟨17, .guard⟩ (by simp) rfl))
                    have hs := J.s
                    clear he
                    refine wpOp_no rfl (by first | rfl | simp [Region.wanted, yielded]) ?_
                    exact ⟨_, _, _, _, _, _, _, _, _, _, _, _, _, _, _, _, _, _, _, _, _, _, _, _, _, _, _, _, _, rfl, J.put 25 rfl hs⟩
                  · intro f a w1 hf he hI
                    refine ex29 hI (G := fun a => wpOp Try.prog _ _ 26 _ a w1) ?_
                    clear hI
                    intro u23 u24 u25 u26 u27 u28 u29 u30 u31 u32 u33 u34 u35 u36 u37 u38 u39 u40 u41 u42 u43 u44 u45 u46 u47 u48 u49 u50 u51 J
                    show wpOp Try.prog _ _ 26 _ _ w1
                    obtain rfl : u40 = .bool false := Option.some.inj (J.h 17 (he _ rfl ⟨17, .guard⟩ (by simp) rfl))
                    have hs := J.s
                    clear he
                    refine wpOp_no rfl (by first | rfl | simp [Region.wanted, yielded]) ?_
                    exact ⟨_, _, _, _, _, _, _, _, _, _, _, _, _, _, _, _, _, _, _, _, _, _, _, _, _, _, _, _, _, rfl, J.put 26 rfl hs⟩
                  · intro f a w1 hf he hI
                    refine ex29 hI (G := fun a => wpOp Try.prog _ _ 27 _ a w1) ?_
                    clear hI
                    intro u23 u24 u25 u26 u27 u28 u29 u30 u31 u32 u33 u34 u35 u36 u37 u38 u39 u40 u41 u42 u43 u44 u45 u46 u47 u48 u49 u50 u51 J
                    show wpOp Try.prog _ _ 27 _ _ w1
                    obtain rfl : u40 = .bool false := Option.some.inj (J.h 17 (he _ rfl ⟨17, .guard⟩ (by simp) rfl))
                    have hs := J.s
                    clear he
                    refine wpOp_no rfl (by first | rfl | simp [Region.wanted, yielded]) ?_
                    exact ⟨_, _, _, _, _, _, _, _, _, _, _, _, _, _, _, _, _, _, _, _, _, _, _, _, _, _, _, _, _, rfl, J.put 27 rfl hs⟩
                  · intro f a w1 hf he hI
                    refine ex29 hI (G := fun a => wpOp Try.prog _ _ 28 _ a w1) ?_
                    clear hI
                    intro u23 u24 u25 u26 u27 u28 u29 u30 u31 u32 u33 u34 u35 u36 u37 u38 u39 u40 u41 u42 u43 u44 u45 u46 u47 u48 u49 u50 u51 J
                    show wpOp Try.prog _ _ 28 _ _ w1
                    obtain rfl : u40 = .bool false := Option.some.inj (J.h 17 (he _ rfl ⟨17, .data⟩ (by simp) rfl))
                    obtain rfl : u50 = undef := Option.some.inj (J.h 27 (he _ rfl ⟨27, .data⟩ (by simp) rfl))
                    have hs := J.s
                    clear he
                    refine wpOp_of rfl rfl (fun K hK => ?_)
                    go_simp
                    exact hK _ _ ⟨_, _, _, _, _, _, _, _, _, _, _, _, _, _, _, _, _, _, _, _, _, _, _, _, _, _, _, _, _, rfl, J.put 28 rfl hs⟩
                · intro f a w1 hall hI
                  obtain ⟨u23, u24, u25, u26, u27, u28, u29, u30, u31, u32, u33, u34, u35, u36, u37, u38, u39, u40, u41, u42, u43, u44, u45, u46, u47, u48, u49, u50, u51, rfl, J⟩ := hI
                  obtain rfl : u51 = .bool false := Option.some.inj (J.h 28 (hall 28 (by decide)))
                  have hs := J.s
                  clear J hall
                  have HZ2 : Hid ((-1 : Int) = nextZ D.gates bs (k + 1)) := Lib.hid (by unfold nextZ; rw [next_no HNO.out HFR.out])
                  have HBW2 : Hid (Below wo.heap.size wo w1) := Lib.hid (HBW.out.trans (hs.mono HBW.out.size))
                  clear KC
                  go_wp2_with fail
                  go_roundw
                  case rel => exact ⟨k + 1, -1, by omega, by go_num, rfl, HZ2, HBW2⟩
                  case measure => simp [intOf]; omega

              | false =>
                cases wb with
                | true =>
                  have HFR : Hid (freeB D.gates bs k = false) := Lib.hid (by rw [HFR0.out]; rfl)
                  go_upto_region 6 with fail
                  clear x0 c0 c1 c2 c3 c4 c5 c6 c7 c8 e1 e2 ct hd1
                  refine wp_region_inv (by kernel_rfl) (by kernel_rfl) (fun f a w' => ∃ u23 u24 u25 u26 u27 u28 u29 u30 u31 u32 u33 u34 u35 u36 u37 u38 u39 u40 u41 u42 u43 u44 u45 u46 u47 u48 u49 u50 u51, a = ⟨#[cval D F, .pointer (some ⟨w.heap.size, 0, none⟩), u2, u3, .slice (some ⟨gt, 0, none⟩) D.gates.length D.gates.length, .int .i64 (-1), .int .i64 (k : Int), u7, u8, u9, u10, u11, .int .i64 (k : Int), .pointer (some ⟨w.heap.size, 6, none⟩), .slice (some ⟨b, off, none⟩) D.gates.length F.cg, .int .i64 (D.gates.length : Int), .bool true, .bool true, .int .i64 (-1), .bool true, .bool true, u21, u22, u23, u24, u25, u26, u27, u28, u29, u30, u31, u32, u33, u34, u35, u36, u37, u38, u39, u40, u41, u42, u43, u44, u45, u46, u47, u48, u49, u50, u51, u52, u53, u54, u55, u56, u57, u58, u59, u60, u61, u62], []⟩ ∧ Jd (fun u => Below wi.heap.size wi u) [.slice (some ⟨gt, 0, none⟩) D.gates.length D.gates.length, .int .i64 (k : Int), .pointer (some ⟨gt, k, none⟩), .bool false, .bool true, .bool true, .agg #[.int .i64 D.max, .slice F.ai D.ins.length F.ci, .slice F.al D.lats.length F.cl, .slice F.ao D.outs.length F.co, .slice F.ab D.bads.length F.cb, .slice F.ac D.cons.length F.cc, .slice (some ⟨b, off, none⟩) D.gates.length F.cg, .slice F.as_ D.syms.length F.cs, .string D.com], .slice (some ⟨gt, 0, none⟩) D.gates.length D.gates.length, .pointer (some ⟨w.heap.size, 6, none⟩), .slice (some ⟨b, off, none⟩) D.gates.length F.cg, .int .i64 (k : Int), .pointer (some ⟨b, off + k * 3, none⟩), .pointer (some ⟨b, off + k * 3 + 1, none⟩), .int .i64 ga, .bool false, .bool true, .bool true, .bool true, .agg #[.int .i64 D.max, .slice F.ai D.ins.length F.ci, .slice F.al D.lats.length F.cl, .slice F.ao D.outs.length F.co, .slice F.ab D.bads.length F.cb, .slice F.ac D.cons.length F.cc, .slice (some ⟨b, off, none⟩) D.gates.length F.cg, .slice F.as_ D.syms.length F.cs, .string D.com], .slice (some ⟨gt, 0, none⟩) D.gates.length D.gates.length, .pointer (some ⟨w.heap.size, 6, none⟩), .slice (some ⟨b, off, none⟩) D.gates.length F.cg, .int .i64 (k : Int), .pointer (some ⟨b, off + k * 3, none⟩), .pointer (some ⟨b, off + k * 3 + 2, none⟩), .int .i64 gb, .bool true, .bool false, .bool false] f [u23, u24, u25, u26, u27, u28, u29, u30, u31, u32, u33, u34, u35, u36, u37, u38, u39, u40, u41, u42, u43, u44, u45, u46, u47, u48, u49, u50, u51] w') ?_ ?_ ?_
                  · exact ⟨_, _, _, _, _, _, _, _, _, _, _, _, _, _, _, _, _, _, _, _, _, _, _, _, _, _, _, _, _, rfl, Jd.start ((Below.refl _ _).drew) rfl⟩
                  · refine all_of29 ?_ ?_ ?_ ?_ ?_ ?_ ?_ ?_ ?_ ?_ ?_ ?_ ?_ ?_ ?_ ?_ ?_ ?_ ?_ ?_ ?_ ?_ ?_ ?_ ?_ ?_ ?_ ?_ ?_
                    · intro f a w1 hf he hI
                      refine ex29 hI (G := fun a => wpOp Try.prog _ _ 0 _ a w1) ?_
                      clear hI
                      intro u23 u24 u25 u26 u27 u28 u29 u30 u31 u32 u33 u34 u35 u36 u37 u38 u39 u40 u41 u42 u43 u44 u45 u46 u47 u48 u49 u50 u51 J
                      show wpOp Try.prog _ _ 0 _ _ w1
                      have hs := J.s
                      clear he
                      refine wpOp_of rfl rfl (fun K hK => ?_)
                      go_simp
                      exact hK _ _ ⟨_, _, _, _, _, _, _, _, _, _, _, _, _, _, _, _, _, _, _, _, _, _, _, _, _, _, _, _, _, rfl, J.put 0 rfl hs⟩
                    · intro f a w1 hf he hI
                      refine ex29 hI (G := fun a => wpOp Try.prog _ _ 1 _ a w1) ?_
                      clear hI
                      intro u23 u24 u25 u26 u27 u28 u29 u30 u31 u32 u33 u34 u35 u36 u37 u38 u39 u40 u41 u42 u43 u44 u45 u46 u47 u48 u49 u50 u51 J
                      show wpOp Try.prog _ _ 1 _ _ w1
                      have hs := J.s
                      clear he
                      refine wpOp_of rfl rfl (fun K hK => ?_)
                      go_simp
                      exact hK _ _ ⟨_, _, _, _, _, _, _, _, _, _, _, _, _, _, _, _, _, _, _, _, _, _, _, _, _, _, _, _, _, rfl, J.put 1 rfl hs⟩
                    · intro f a w1 hf he hI
                      refine ex29 hI (G := fun a => wpOp Try.prog _ _ 2 _ a w1) ?_
                      clear hI
                      intro u23 u24 u25 u26 u27 u28 u29 u30 u31 u32 u33 u34 u35 u36 u37 u38 u39 u40 u41 u42 u43 u44 u45 u46 u47 u48 u49 u50 u51 J
                      show wpOp Try.prog _ _ 2 _ _ w1
                      obtain rfl : u23 = .slice (some ⟨gt, 0, none⟩) D.gates.length D.gates.length := Option.some.inj (J.h 0 (he _ rfl ⟨0, .data⟩ (by simp) rfl))
                      obtain rfl : u24 = .int .i64 (k : Int) := Option.some.inj (J.h 1 (he _ rfl ⟨1, .data⟩ (by simp) rfl))
                      have hs := J.s
                      clear he
                      refine wpOp_of rfl rfl (fun K hK => ?_)
                      go_simp
                      exact hK _ _ ⟨_, _, _, _, _, _, _, _, _, _, _, _, _, _, _, _, _, _, _, _, _, _, _, _, _, _, _, _, _, rfl, J.put 2 rfl hs⟩
                    · intro f a w1 hf he hI
                      refine ex29 hI (G := fun a => wpOp Try.prog _ _ 3 _ a w1) ?_
                      clear hI
                      intro u23 u24 u25 u26 u27 u28 u29 u30 u31 u32 u33 u34 u35 u36 u37 u38 u39 u40 u41 u42 u43 u44 u45 u46 u47 u48 u49 u50 u51 J
                      show wpOp Try.prog _ _ 3 _ _ w1
                      obtain rfl : u25 = .pointer (some ⟨gt, k, none⟩) := Option.some.inj (J.h 2 (he _ rfl ⟨2, .data⟩ (by simp) rfl))
                      have hs := J.s
                      have k11 := (KC.out _ hs).2.2.2.2.2.2.2.2.2.2.2
                      clear he
                      refine wpOp_of rfl rfl (fun K hK => ?_)
                      go_simp
                      exact hK _ _ ⟨_, _, _, _, _, _, _, _, _, _, _, _, _, _, _, _, _, _, _, _, _, _, _, _, _, _, _, _, _, rfl, J.put 3 rfl hs⟩
                    · intro f a w1 hf he hI
                      refine ex29 hI (G := fun a => wpOp Try.prog _ _ 4 _ a w1) ?_
                      clear hI
                      intro u23 u24 u25 u26 u27 u28 u29 u30 u31 u32 u33 u34 u35 u36 u37 u38 u39 u40 u41 u42 u43 u44 u45 u46 u47 u48 u49 u50 u51 J
                      show wpOp Try.prog _ _ 4 _ _ w1
                      obtain rfl : u26 = .bool false := Option.some.inj (J.h 3 (he _ rfl ⟨3, .data⟩ (by simp) rfl))
                      have hs := J.s
                      clear he
                      refine wpOp_of rfl rfl (fun K hK => ?_)
                      go_simp
                      exact hK _ _ ⟨_, _, _, _, _, _, _, _, _, _, _, _, _, _, _, _, _, _, _, _, _, _, _, _, _, _, _, _, _, rfl, J.put 4 rfl hs⟩
                    · intro f a w1 hf he hI
                      refine ex29 hI (G := fun a => wpOp Try.prog _ _ 5 _ a w1) ?_
                      clear hI
                      intro u23 u24 u25 u26 u27 u28 u29 u30 u31 u32 u33 u34 u35 u36 u37 u38 u39 u40 u41 u42 u43 u44 u45 u46 u47 u48 u49 u50 u51 J
                      show wpOp Try.prog _ _ 5 _ _ w1
                      obtain rfl : u27 = .bool true := Option.some.inj (J.h 4 (he _ rfl ⟨4, .data⟩ (by simp) rfl))
                      have hs := J.s
                      clear he
                      refine wpOp_of rfl rfl (fun K hK => ?_)
                      go_simp
                      exact hK _ _ ⟨_, _, _, _, _, _, _, _, _, _, _, _, _, _, _, _, _, _, _, _, _, _, _, _, _, _, _, _, _, rfl, J.put 5 rfl hs⟩
                    · intro f a w1 hf he hI
                      refine ex29 hI (G := fun a => wpOp Try.prog _ _ 6 _ a w1) ?_
                      clear hI
                      intro u23 u24 u25 u26 u27 u28 u29 u30 u31 u32 u33 u34 u35 u36 u37 u38 u39 u40 u41 u42 u43 u44 u45 u46 u47 u48 u49 u50 u51 J
                      show wpOp Try.prog _ _ 6 _ _ w1
                      obtain rfl : u28 = .bool true := Option.some.inj (J.h 5 (he _ rfl ⟨5, .guard⟩ (by simp) rfl))
                      have hs := J.s
                      obtain ⟨k0, k1, k2, k3, k4, k5, k6, k7, k8, -, -, -⟩ := KC.out _ hs
                      clear he
                      refine wpOp_yes rfl (by first | rfl | simp [Region.wanted, yielded]) (fun K hK => ?_)
                      go_simp
                      exact hK _ _ ⟨_, _, _, _, _, _, _, _, _, _, _, _, _, _, _, _, _, _, _, _, _, _, _, _, _, _, _, _, _, rfl, J.put 6 rfl hs⟩
                    · intro f a w1 hf he hI
                      refine ex29 hI (G := fun a => wpOp Try.prog _ _ 7 _ a w1) ?_
                      clear hI
                      intro u23 u24 u25 u26 u27 u28 u29 u30 u31 u32 u33 u34 u35 u36 u37 u38 u39 u40 u41 u42 u43 u44 u45 u46 u47 u48 u49 u50 u51 J
                      show wpOp Try.prog _ _ 7 _ _ w1
                      obtain rfl : u28 = .bool true := Option.some.inj (J.h 5 (he _ rfl ⟨5, .guard⟩ (by simp) rfl))
                      have hs := J.s
                      clear he
                      refine wpOp_yes rfl (by first | rfl | simp [Region.wanted, yielded]) (fun K hK => ?_)
                      go_simp
                      exact hK _ _ ⟨_, _, _, _, _, _, _, _, _, _, _, _, _, _, _, _, _, _, _, _, _, _, _, _, _, _, _, _, _, rfl, J.put 7 rfl hs⟩
                    · intro f a w1 hf he hI
                      refine ex29 hI (G := fun a => wpOp Try.prog _ _ 8 _ a w1) ?_
                      clear hI
                      intro u23 u24 u25 u26 u27 u28 u29 u30 u31 u32 u33 u34 u35 u36 u37 u38 u39 u40 u41 u42 u43 u44 u45 u46 u47 u48 u49 u50 u51 J
                      show wpOp Try.prog _ _ 8 _ _ w1
                      obtain rfl : u28 = .bool true := Option.some.inj (J.h 5 (he _ rfl ⟨5, .guard⟩ (by simp) rfl))
                      have hs := J.s
                      clear he
                      refine wpOp_yes rfl (by first | rfl | simp [Region.wanted, yielded]) (fun K hK => ?_)
                      go_simp
                      exact hK _ _ ⟨_, _, _, _, _, _, _, _, _, _, _, _, _, _, _, _, _, _, _, _, _, _, _, _, _, _, _, _, _, rfl, J.put 8 rfl hs⟩
                    · intro f a w1 hf he hI
                      refine ex29 hI (G := fun a => wpOp Try.prog _ _ 9 _ a w1) ?_
                      clear hI
                      intro u23 u24 u25 u26 u27 u28 u29 u30 u31 u32 u33 u34 u35 u36 u37 u38 u39 u40 u41 u42 u43 u44 u45 u46 u47 u48 u49 u50 u51 J
                      show wpOp Try.prog _ _ 9 _ _ w1
                      obtain rfl : u28 = .bool true := Option.some.inj (J.h 5 (he _ rfl ⟨5, .guard⟩ (by simp) rfl))
                      obtain rfl : u31 = .pointer (some ⟨w.heap.size, 6, none⟩) := Option.some.inj (J.h 8 (he _ rfl ⟨8, .data⟩ (by simp) rfl))
                      have hs := J.s
                      have k6 := (KC.out _ hs).2.2.2.2.2.2.1
                      clear he
                      refine wpOp_yes rfl (by first | rfl | simp [Region.wanted, yielded]) (fun K hK => ?_)
                      go_simp
                      exact hK _ _ ⟨_, _, _, _, _, _, _, _, _, _, _, _, _, _, _, _, _, _, _, _, _, _, _, _, _, _, _, _, _, rfl, J.put 9 rfl hs⟩
                    · intro f a w1 hf he hI
                      refine ex29 hI (G := fun a => wpOp Try.prog _ _ 10 _ a w1) ?_
                      clear hI
                      intro u23 u24 u25 u26 u27 u28 u29 u30 u31 u32 u33 u34 u35 u36 u37 u38 u39 u40 u41 u42 u43 u44 u45 u46 u47 u48 u49 u50 u51 J
                      show wpOp Try.prog _ _ 10 _ _ w1
                      obtain rfl : u28 = .bool true := Option.some.inj (J.h 5 (he _ rfl ⟨5, .guard⟩ (by simp) rfl))
                      have hs := J.s
                      clear he
                      refine wpOp_yes rfl (by first | rfl | simp [Region.wanted, yielded]) (fun K hK => ?_)
                      go_simp
                      exact hK _ _ ⟨_, _, _, _, _, _, _, _, _, _, _, _, _, _, _, _, _, _, _, _, _, _, _, _, _, _, _, _, _, rfl, J.put 10 rfl hs⟩
                    · intro f a w1 hf he hI
                      refine ex29 hI (G := fun a => wpOp Try.prog _ _ 11 _ a w1) ?_
                      clear hI
                      intro u23 u24 u25 u26 u27 u28 u29 u30 u31 u32 u33 u34 u35 u36 u37 u38 u39 u40 u41 u42 u43 u44 u45 u46 u47 u48 u49 u50 u51 J
                      show wpOp Try.prog _ _ 11 _ _ w1
                      obtain rfl : u28 = .bool true := Option.some.inj (J.h 5 (he _ rfl ⟨5, .guard⟩ (by simp) rfl))
                      obtain rfl : u32 = .slice (some ⟨b, off, none⟩) D.gates.length F.cg := Option.some.inj (J.h 9 (he _ rfl ⟨9, .data⟩ (by simp) rfl))
                      obtain rfl : u33 = .int .i64 (k : Int) := Option.some.inj (J.h 10 (he _ rfl ⟨10, .data⟩ (by simp) rfl))
                      have hs := J.s
                      clear he
                      refine wpOp_yes rfl (by first | rfl | simp [Region.wanted, yielded]) (fun K hK => ?_)
                      go_simp
                      exact hK _ _ ⟨_, _, _, _, _, _, _, _, _, _, _, _, _, _, _, _, _, _, _, _, _, _, _, _, _, _, _, _, _, rfl, J.put 11 rfl hs⟩
                    · intro f a w1 hf he hI
                      refine ex29 hI (G := fun a => wpOp Try.prog _ _ 12 _ a w1) ?_
                      clear hI
                      intro u23 u24 u25 u26 u27 u28 u29 u30 u31 u32 u33 u34 u35 u36 u37 u38 u39 u40 u41 u42 u43 u44 u45 u46 u47 u48 u49 u50 u51 J
                      show wpOp Try.prog _ _ 12 _ _ w1
                      obtain rfl : u28 = .bool true := Option.some.inj (J.h 5 (he _ rfl ⟨5, .guard⟩ (by simp) rfl))
                      obtain rfl : u34 = .pointer (some ⟨b, off + k * 3, none⟩) := Option.some.inj (J.h 11 (he _ rfl ⟨11, .data⟩ (by simp) rfl))
                      have hs := J.s
                      clear he
                      refine wpOp_yes rfl (by first | rfl | simp [Region.wanted, yielded]) (fun K hK => ?_)
                      go_simp
                      exact hK _ _ ⟨_, _, _, _, _, _, _, _, _, _, _, _, _, _, _, _, _, _, _, _, _, _, _, _, _, _, _, _, _, rfl, J.put 12 rfl hs⟩
                    · intro f a w1 hf he hI
                      refine ex29 hI (G := fun a => wpOp Try.prog _ _ 13 _ a w1) ?_
                      clear hI
                      intro u23 u24 u25 u26 u27 u28 u29 u30 u31 u32 u33 u34 u35 u36 u37 u38 u39 u40 u41 u42 u43 u44 u45 u46 u47 u48 u49 u50 u51 J
                      show wpOp Try.prog _ _ 13 _ _ w1
                      obtain rfl : u28 = .bool true := Option.some.inj (J.h 5 (he _ rfl ⟨5, .guard⟩ (by simp) rfl))
                      obtain rfl : u35 = .pointer (some ⟨b, off + k * 3 + 1, none⟩) := Option.some.inj (J.h 12 (he _ rfl ⟨12, .data⟩ (by simp) rfl))
                      have hs := J.s
                      have k9 := (KC.out _ hs).2.2.2.2.2.2.2.2.2.1
                      clear he
                      refine wpOp_yes rfl (by first | rfl | simp [Region.wanted, yielded]) (fun K hK => ?_)
                      go_simp
                      exact hK _ _ ⟨_, _, _, _, _, _, _, _, _, _, _, _, _, _, _, _, _, _, _, _, _, _, _, _, _, _, _, _, _, rfl, J.put 13 rfl hs⟩
                    · intro f a w1 hf he hI
                      refine ex29 hI (G := fun a => wpOp Try.prog _ _ 14 _ a w1) ?_
                      clear hI
                      intro u23 u24 u25 u26 u27 u28 u29 u30 u31 u32 u33 u34 u35 u36 u37 u38 u39 u40 u41 u42 u43 u44 u45 u46 u47 u48 u49 u50 u51 J
                      show wpOp Try.prog _ _ 14 _ _ w1
                      obtain rfl : u28 = .bool true := Option.some.inj (J.h 5 (he _ rfl ⟨5, .guard⟩ (by simp) rfl))
                      obtain rfl : u29 = .agg #[.int .i64 D.max, .slice F.ai D.ins.length F.ci, .slice F.al D.lats.length F.cl, .slice F.ao D.outs.length F.co, .slice F.ab D.bads.length F.cb, .slice F.ac D.cons.length F.cc, .slice (some ⟨b, off, none⟩) D.gates.length F.cg, .slice F.as_ D.syms.length F.cs, .string D.com] := Option.some.inj (J.h 6 (he _ rfl ⟨6, .data⟩ (by simp) rfl))
                      obtain rfl : u30 = .slice (some ⟨gt, 0, none⟩) D.gates.length D.gates.length := Option.some.inj (J.h 7 (he _ rfl ⟨7, .data⟩ (by simp) rfl))
                      obtain rfl : u36 = .int .i64 ga := Option.some.inj (J.h 13 (he _ rfl ⟨13, .data⟩ (by simp) rfl))
                      have hs := J.s
                      clear he
                      refine wpOp_yes rfl (by first | rfl | simp [Region.wanted, yielded]) (fun K hK => ?_)
                      go_simp
                      go_wp2_with (go_at_call 31; refine (HCA.out _ hs).mono ?_; rintro e w2 ⟨rfl, hb⟩); have hs2 := hs.trans (hb.mono hs.size)
                      exact ⟨_, _, _, _, _, _, _, _, _, _, _, _, _, _, _, _, _, _, _, _, _, _, _, _, _, _, _, _, _, rfl, J.put 14 rfl hs2⟩
                    · intro f a w1 hf he hI
                      refine ex29 hI (G := fun a => wpOp Try.prog _ _ 15 _ a w1) ?_
                      clear hI
                      intro u23 u24 u25 u26 u27 u28 u29 u30 u31 u32 u33 u34 u35 u36 u37 u38 u39 u40 u41 u42 u43 u44 u45 u46 u47 u48 u49 u50 u51 J
                      show wpOp Try.prog _ _ 15 _ _ w1
                      obtain rfl : u28 = .bool true := Option.some.inj (J.h 5 (he _ rfl ⟨5, .guard⟩ (by simp) rfl))
                      obtain rfl : u37 = .bool false := Option.some.inj (J.h 14 (he _ rfl ⟨14, .data⟩ (by simp) rfl))
                      have hs := J.s
                      clear he
                      refine wpOp_yes rfl (by first | rfl | simp [Region.wanted, yielded]) (fun K hK => ?_)
                      go_simp
                      exact hK _ _ ⟨_, _, _, _, _, _, _, _, _, _, _, _, _, _, _, _, _, _, _, _, _, _, _, _, _, _, _, _, _, rfl, J.put 15 rfl hs⟩
                    · intro f a w1 hf he hI
                      refine ex29 hI (G := fun a => wpOp Try.prog _ _ 16 _ a w1) ?_
                      clear hI
                      intro u23 u24 u25 u26 u27 u28 u29 u30 u31 u32 u33 u34 u35 u36 u37 u38 u39 u40 u41 u42 u43 u44 u45 u46 u47 u48 u49 u50 u51 J
                      show wpOp Try.prog _ _ 16 _ _ w1
                      obtain rfl : u28 = .bool true := Option.some.inj (J.h 5 (he _ rfl ⟨5, .data⟩ (by simp) rfl))
                      obtain rfl : u38 = .bool true := Option.some.inj (J.h 15 (he _ rfl ⟨15, .data⟩ (by simp) rfl))
                      have hs := J.s
                      clear he
                      refine wpOp_of rfl rfl (fun K hK => ?_)
                      go_simp
                      exact hK _ _ ⟨_, _, _, _, _, _, _, _, _, _, _, _, _, _, _, _, _, _, _, _, _, _, _, _, _, _, _, _, _, rfl, J.put 16 rfl hs⟩
                    · intro f a w1 hf he hI
                      refine ex29 hI (G := fun a => wpOp Try.prog _ _ 17 _ a w1) ?_
                      clear hI
                      intro u23 u24 u25 u26 u27 u28 u29 u30 u31 u32 u33 u34 u35 u36 u37 u38 u39 u40 u41 u42 u43 u44 u45 u46 u47 u48 u49 u50 u51 J
                      show wpOp Try.prog _ _ 17 _ _ w1
                      obtain rfl : u39 = .bool true := Option.some.inj (J.h 16 (he _ rfl ⟨16, .data⟩ (by simp) rfl))
                      have hs := J.s
                      clear he
                      refine wpOp_of rfl rfl (fun K hK => ?_)
                      go_simp
                      exact hK _ _ ⟨_, _, _, _, _, _, _, _, _, _, _, _, _, _, _, _, _, _, _, _, _, _, _, _, _, _, _, _, _, rfl, J.put 17 rfl hs⟩
                    · intro f a w1 hf he hI
                      refine ex29 hI (G := fun a => wpOp Try.prog _ _ 18 _ a w1) ?_
                      clear hI
                      intro u23 u24 u25 u26 u27 u28 u29 u30 u31 u32 u33 u34 u35 u36 u37 u38 u39 u40 u41 u42 u43 u44 u45 u46 u47 u48 u49 u50 u51 J
                      show wpOp Try.prog _ _ 18 _ _ w1
                      obtain rfl : u40 = .bool true := Option.some.inj (J.h 17 (he _ rfl ⟨17, .guard⟩ (by simp) rfl))
                      have hs := J.s
                      obtain ⟨k0, k1, k2, k3, k4, k5, k6, k7, k8, -, -, -⟩ := KC.out _ hs
                      clear he
                      refine wpOp_yes rfl (by first | rfl | simp [Region.wanted, yielded]) (fun K hK => ?_)
                      go_simp
                      exact hK _ _ ⟨_, _, _, _, _, _, _, _, _, _, _, _, _, _, _, _, _, _, _, _, _, _, _, _, _, _, _, _, _, rfl, J.put 18 rfl hs⟩
                    · intro f a w1 hf he hI
                      refine ex29 hI (G := fun a => wpOp Try.prog _ _ 19 _ a w1) ?_
                      clear hI
                      intro u23 u24 u25 u26 u27 u28 u29 u30 u31 u32 u33 u34 u35 u36 u37 u38 u39 u40 u41 u42 u43 u44 u45 u46 u47 u48 u49 u50 u51 J
                      show wpOp Try.prog _ _ 19 _ _ w1
                      obtain rfl : u40 = .bool true := Option.some.inj (J.h 17 (he _ rfl ⟨17, .guard⟩ (by simp) rfl))
                      have hs := J.s
                      clear he
                      refine wpOp_yes rfl (by first | rfl | simp [Region.wanted, yielded]) (fun K hK => ?_)
                      go_simp
                      exact hK _ _ ⟨_, _, _, _, _, _, _, _, _, _, _, _, _, _, _, _, _, _, _, _, _, _, _, _, _, _, _, _, _, rfl, J.put 19 rfl hs⟩
                    · intro f a w1 hf he hI
                      refine ex29 hI (G := fun a => wpOp Try.prog _ _ 20 _ a w1) ?_
                      clear hI
                      intro u23 u24 u25 u26 u27 u28 u29 u30 u31 u32 u33 u34 u35 u36 u37 u38 u39 u40 u41 u42 u43 u44 u45 u46 u47 u48 u49 u50 u51 J
                      show wpOp Try.prog _ _ 20 _ _ w1
                      obtain rfl : u40 = .bool true := Option.some.inj (J.h 17 (he _ rfl ⟨17, .guard⟩ (by simp) rfl))
                      have hs := J.s
                      clear he
                      refine wpOp_yes rfl (by first | rfl | simp [Region.wanted, yielded]) (fun K hK => ?_)
                      go_simp
                      exact hK _ _ ⟨_, _, _, _, _, _, _, _, _, _, _, _, _, _, _, _, _, _, _, _, _, _, _, _, _, _, _, _, _, rfl, J.put 20 rfl hs⟩
                    · intro f a w1 hf he hI
                      refine ex29 hI (G := fun a => wpOp Try.prog _ _ 21 _ a w1) ?_
                      clear hI
                      intro u23 u24 u25 u26 u27 u28 u29 u30 u31 u32 u33 u34 u35 u36 u37 u38 u39 u40 u41 u42 u43 u44 u45 u46 u47 u48 u49 u50 u51 J
                      show wpOp Try.prog _ _ 21 _ _ w1
                      obtain rfl : u40 = .bool true := Option.some.inj (J.h 17 (he _ rfl ⟨17, .guard⟩ (by simp) rfl))
                      obtain rfl : u43 = .pointer (some ⟨w.heap.size, 6, none⟩) := Option.some.inj (J.h 20 (he _ rfl ⟨20, .data⟩ (by simp) rfl))
                      have hs := J.s
                      have k6 := (KC.out _ hs).2.2.2.2.2.2.1
                      clear he
                      refine wpOp_yes rfl (by first | rfl | simp [Region.wanted, yielded]) (fun K hK => ?_)
                      go_simp
                      exact hK _ _ ⟨_, _, _, _, _, _, _, _, _, _, _, _, _, _, _, _, _, _, _, _, _, _, _, _, _, _, _, _, _, rfl, J.put 21 rfl hs⟩
                    · intro f a w1 hf he hI
                      refine ex29 hI (G := fun a => wpOp Try.prog _ _ 22 _ a w1) ?_
                      clear hI
                      intro u23 u24 u25 u26 u27 u28 u29 u30 u31 u32 u33 u34 u35 u36 u37 u38 u39 u40 u41 u42 u43 u44 u45 u46 u47 u48 u49 u50 u51 J
                      show wpOp Try.prog _ _ 22 _ _ w1
                      obtain rfl : u40 = .bool true := Option.some.inj (J.h 17 (he _ rfl ⟨17, .guard⟩ (by simp) rfl))
                      have hs := J.s
                      clear he
                      refine wpOp_yes rfl (by first | rfl | simp [Region.wanted, yielded]) (fun K hK => ?_)
                      go_simp
                      exact hK _ _ ⟨_, _, _, _, _, _, _, _, _, _, _, _, _, _, _, _, _, _, _, _, _, _, _, _, _, _, _, _, _, rfl, J.put 22 rfl hs⟩
                    · intro f a w1 hf he hI
                      refine ex29 hI (G := fun a => wpOp Try.prog _ _ 23 _ a w1) ?_
                      clear hI
                      intro u23 u24 u25 u26 u27 u28 u29 u30 u31 u32 u33 u34 u35 u36 u37 u38 u39 u40 u41 u42 u43 u44 u45 u46 u47 u48 u49 u50 u51 J
                      show wpOp Try.prog _ _ 23 _ _ w1
                      obtain rfl : u40 = .bool true := Option.some.inj (J.h 17 (he _ rfl ⟨17, .guard⟩ (by simp) rfl))
                      obtain rfl : u44 = .slice (some ⟨b, off, none⟩) D.gates.length F.cg := Option.some.inj (J.h 21 (he _ rfl ⟨21, .data⟩ (by simp) rfl))
                      obtain rfl : u45 = .int .i64 (k : Int) := Option.some.inj (J.h 22 (he _ rfl ⟨22, .data⟩ (by simp) rfl))
                      have hs := J.s
                      clear he
                      refine wpOp_yes rfl (by first | rfl | simp [Region.wanted, yielded]) (fun K hK => ?_)
                      go_simp
                      exact hK _ _ ⟨_, _, _, _, _, _, _, _, _, _, _, _, _, _, _, _, _, _, _, _, _, _, _, _, _, _, _, _, _, rfl, J.put 23 rfl hs⟩
                    · intro f a w1 hf he hI
                      refine ex29 hI (G := fun a => wpOp Try.prog _ _ 24 _ a w1) ?_
                      clear hI
                      intro u23 u24 u25 u26 u27 u28 u29 u30 u31 u32 u33 u34 u35 u36 u37 u38 u39 u40 u41 u42 u43 u44 u45 u46 u47 u48 u49 u50 u51 J
                      show wpOp Try.prog _ _ 24 _ _ w1
                      obtain rfl : u40 = .bool true := Option.some.inj (J.h 17 (he _ rfl ⟨17, .guard⟩ (by simp) rfl))
                      obtain rfl : u46 = .pointer (some ⟨b, off + k * 3, none⟩) := Option.some.inj (J.h 23 (he _ rfl ⟨23, .data⟩ (by simp) rfl))
                      have hs := J.s
                      clear he
                      refine wpOp_yes rfl (by first | rfl | simp [Region.wanted, yielded]) (fun K hK => ?_)
                      go_simp
                      exact hK _ _ ⟨_, _, _, _, _, _, _, _, _, _, _, _, _, _, _, _, _, _, _, _, _, _, _, _, _, _, _, _, _, rfl, J.put 24 rfl hs⟩
                    · intro f a w1 hf he hI
                      refine ex29 hI (G := fun a => wpOp Try.prog _ _ 25 _ a w1) ?_
                      clear hI
                      intro u23 u24 u25 u26 u27 u28 u29 u30 u31 u32 u33 u34 u35 u36 u37 u38 u39 u40 u41 u42 u43 u44 u45 u46 u47 u48 u49 u50 u51 J
                      show wpOp Try.prog _ _ 25 _ _ w1
                      obtain rfl : u40 = .bool true := Option.some.inj (J.h 17 (he _ rfl ⟨17, .guard⟩ (by simp) rfl))
                      obtain rfl : u47 = .pointer (some ⟨b, off + k * 3 + 2, none⟩) := Option.some.inj (J.h 24 (he _ rfl ⟨24, .data⟩ (by simp) rfl))
                      have hs := J.s
                      have k10 := (KC.out _ hs).2.2.2.2.2.2.2.2.2.2.1
                      clear he
                      refine wpOp_yes rfl (by first | rfl | simp [Region.wanted, yielded]) (fun K hK => ?_)
                      go_simp
                      exact hK _ _ ⟨_, _, _, _, _, _, _, _, _, _, _, _, _, _, _, _, _, _, _, _, _, _, _, _, _, _, _, _, _, rfl, J.put 25 rfl hs⟩
                    · intro f a w1 hf he hI
                      refine ex29 hI (G := fun a => wpOp Try.prog _ _ 26 _ a w1) ?_
                      clear hI
                      intro u23 u24 u25 u26 u27 u28 u29 u30 u31 u32 u33 u34 u35 u36 u37 u38 u39 u40 u41 u42 u43 u44 u45 u46 u47 u48 u49 u50 u51 J
                      show wpOp Try.prog _ _ 26 _ _ w1
                      obtain rfl : u40 = .bool true := Option.some.inj (J.h 17 (he _ rfl ⟨17, .guard⟩ (by simp) rfl))
                      obtain rfl : u41 = .agg #[.int .i64 D.max, .slice F.ai D.ins.length F.ci, .slice F.al D.lats.length F.cl, .slice F.ao D.outs.length F.co, .slice F.ab D.bads.length F.cb, .slice F.ac D.cons.length F.cc, .slice (some ⟨b, off, none⟩) D.gates.length F.cg, .slice F.as_ D.syms.length F.cs, .string D.com] := Option.some.inj (J.h 18 (he _ rfl ⟨18, .data⟩ (by simp) rfl))
                      obtain rfl : u42 = .slice (some ⟨gt, 0, none⟩) D.gates.length D.gates.length := Option.some.inj (J.h 19 (he _ rfl ⟨19, .data⟩ (by simp) rfl))
                      obtain rfl : u48 = .int .i64 gb := Option.some.inj (J.h 25 (he _ rfl ⟨25, .data⟩ (by simp) rfl))
                      have hs := J.s
                      clear he
                      refine wpOp_yes rfl (by first | rfl | simp [Region.wanted, yielded]) (fun K hK => ?_)
                      go_simp
                      go_wp2_with (go_at_call 31; refine (HCB.out _ hs).mono ?_; rintro e w2 ⟨rfl, hb⟩); have hs2 := hs.trans (hb.mono hs.size)
                      exact ⟨_, _, _, _, _, _, _, _, _, _, _, _, _, _, _, _, _, _, _, _, _, _, _, _, _, _, _, _, _, rfl, J.put 26 rfl hs2⟩
                    · intro f a w1 hf he hI
                      refine ex29 hI (G := fun a => wpOp Try.prog _ _ 27 _ a w1) ?_
                      clear hI
                      intro u23 u24 u25 u26 u27 u28 u29 u30 u31 u32 u33 u34 u35 u36 u37 u38 u39 u40 u41 u42 u43 u44 u45 u46 u47 u48 u49 u50 u51 J
                      show wpOp Try.prog _ _ 27 _ _ w1
                      obtain rfl : u40 = .bool true := Option.some.inj (J.h 17 (he _ rfl ⟨17, .guard⟩ (by simp) rfl))
                      obtain rfl : u49 = .bool true := Option.some.inj (J.h 26 (he _ rfl ⟨26, .data⟩ (by simp) rfl))
                      have hs := J.s
                      clear he
                      refine wpOp_yes rfl (by first | rfl | simp [Region.wanted, yielded]) (fun K hK => ?_)
                      go_simp
                      exact hK _ _ ⟨_, _, _, _, _, _, _, _, _, _, _, _, _, _, _, _, _, _, _, _, _, _, _, _, _, _, _, _, _, rfl, J.put 27 rfl hs⟩
                    · intro f a w1 hf he hI
                      refine ex29 hI (G := fun a => wpOp Try.prog _ _ 28 _ a w1) ?_
                      clear hI
                      intro u23 u24 u25 u26 u27 u28 u29 u30 u31 u32 u33 u34 u35 u36 u37 u38 u39 u40 u41 u42 u43 u44 u45 u46 u47 u48 u49 u50 u51 J
                      show wpOp Try.prog _ _ 28 _ _ w1
                      obtain rfl : u40 = .bool true := Option.some.inj (J.h 17 (he _ rfl ⟨17, .data⟩ (by simp) rfl))
                      obtain rfl : u50 = .bool false := Option.some.inj (J.h 27 (he _ rfl ⟨27, .data⟩ (by simp) rfl))
                      have hs := J.s
                      clear he
                      refine wpOp_of rfl rfl (fun K hK => ?_)
                      go_simp
                      exact hK _ _ ⟨_, _, _, _, _, _, _, _, _, _, _, _, _, _, _, _, _, _, _, _, _, _, _, _, _, _, _, _, _, rfl, J.put 28 rfl hs⟩
                  · intro f a w1 hall hI
                    obtain ⟨u23, u24, u25, u26, u27, u28, u29, u30, u31, u32, u33, u34, u35, u36, u37, u38, u39, u40, u41, u42, u43, u44, u45, u46, u47, u48, u49, u50, u51, rfl, J⟩ := hI
                    obtain rfl : u51 = .bool false := Option.some.inj (J.h 28 (hall 28 (by decide)))
                    have hs := J.s
                    clear J hall
                    have HZ2 : Hid ((-1 : Int) = nextZ D.gates bs (k + 1)) := Lib.hid (by unfold nextZ; rw [next_no HNO.out HFR.out])
                    have HBW2 : Hid (Below wo.heap.size wo w1) := Lib.hid (HBW.out.trans (hs.mono HBW.out.size))
                    clear KC
                    go_wp2_with fail
                    go_roundw
                    case rel => exact ⟨k + 1, -1, by omega, by go_num, rfl, HZ2, HBW2⟩
                    case measure => simp [intOf]; omega

                | false =>
                  have HFR : Hid (freeB D.gates bs k = true) := Lib.hid (by rw [HFR0.out]; rfl)
                  go_upto_region 6 with fail
                  clear x0 c0 c1 c2 c3 c4 c5 c6 c7 c8 e1 e2 ct hd1
                  refine wp_region_inv (by kernel_rfl) (by kernel_rfl) (fun f a w' => ∃ u23 u24 u25 u26 u27 u28 u29 u30 u31 u32 u33 u34 u35 u36 u37 u38 u39 u40 u41 u42 u43 u44 u45 u46 u47 u48 u49 u50 u51, a = ⟨#[cval D F, .pointer (some ⟨w.heap.size, 0, none⟩), u2, u3, .slice (some ⟨gt, 0, none⟩) D.gates.length D.gates.length, .int .i64 (-1), .int .i64 (k : Int), u7, u8, u9, u10, u11, .int .i64 (k : Int), .pointer (some ⟨w.heap.size, 6, none⟩), .slice (some ⟨b, off, none⟩) D.gates.length F.cg, .int .i64 (D.gates.length : Int), .bool true, .bool true, .int .i64 (-1), .bool true, .bool true, u21, u22, u23, u24, u25, u26, u27, u28, u29, u30, u31, u32, u33, u34, u35, u36, u37, u38, u39, u40, u41, u42, u43, u44, u45, u46, u47, u48, u49, u50, u51, u52, u53, u54, u55, u56, u57, u58, u59, u60, u61, u62], []⟩ ∧ Jd (fun u => Below wi.heap.size wi u) [.slice (some ⟨gt, 0, none⟩) D.gates.length D.gates.length, .int .i64 (k : Int), .pointer (some ⟨gt, k, none⟩), .bool false, .bool true, .bool true, .agg #[.int .i64 D.max, .slice F.ai D.ins.length F.ci, .slice F.al D.lats.length F.cl, .slice F.ao D.outs.length F.co, .slice F.ab D.bads.length F.cb, .slice F.ac D.cons.length F.cc, .slice (some ⟨b, off, none⟩) D.gates.length F.cg, .slice F.as_ D.syms.length F.cs, .string D.com], .slice (some ⟨gt, 0, none⟩) D.gates.length D.gates.length, .pointer (some ⟨w.heap.size, 6, none⟩), .slice (some ⟨b, off, none⟩) D.gates.length F.cg, .int .i64 (k : Int), .pointer (some ⟨b, off + k * 3, none⟩), .pointer (some ⟨b, off + k * 3 + 1, none⟩), .int .i64 ga, .bool false, .bool true, .bool true, .bool true, .agg #[.int .i64 D.max, .slice F.ai D.ins.length F.ci, .slice F.al D.lats.length F.cl, .slice F.ao D.outs.length F.co, .slice F.ab D.bads.length F.cb, .slice F.ac D.cons.length F.cc, .slice (some ⟨b, off, none⟩) D.gates.length F.cg, .slice F.as_ D.syms.length F.cs, .string D.com], .slice (some ⟨gt, 0, none⟩) D.gates.length D.gates.length, .pointer (some ⟨w.heap.size, 6, none⟩), .slice (some ⟨b, off, none⟩) D.gates.length F.cg, .int .i64 (k : Int), .pointer (some ⟨b, off + k * 3, none⟩), .pointer (some ⟨b, off + k * 3 + 2, none⟩), .int .i64 gb, .bool false, .bool true, .bool true] f [u23, u24, u25, u26, u27, u28, u29, u30, u31, u32, u33, u34, u35, u36, u37, u38, u39, u40, u41, u42, u43, u44, u45, u46, u47, u48, u49, u50, u51] w') ?_ ?_ ?_
                  · exact ⟨_, _, _, _, _, _, _, _, _, _, _, _, _, _, _, _, _, _, _, _, _, _, _, _, _, _, _, _, _, rfl, Jd.start ((Below.refl _ _).drew) rfl⟩
                  · refine all_of29 ?_ ?_ ?_ ?_ ?_ ?_ ?_ ?_ ?_ ?_ ?_ ?_ ?_ ?_ ?_ ?_ ?_ ?_ ?_ ?_ ?_ ?_ ?_ ?_ ?_ ?_ ?_ ?_ ?_
                    · intro f a w1 hf he hI
                      refine ex29 hI (G := fun a => wpOp Try.prog _ _ 0 _ a w1) ?_
                      clear hI
                      intro u23 u24 u25 u26 u27 u28 u29 u30 u31 u32 u33 u34 u35 u36 u37 u38 u39 u40 u41 u42 u43 u44 u45 u46 u47 u48 u49 u50 u51 J
                      show wpOp Try.prog _ _ 0 _ _ w1
                      have hs := J.s
                      clear he
                      refine wpOp_of rfl rfl (fun K hK => ?_)
                      go_simp
                      exact hK _ _ ⟨_, _, _, _, _, _, _, _, _, _, _, _, _, _, _, _, _, _, _, _, _, _, _, _, _, _, _, _, _, rfl, J.put 0 rfl hs⟩
                    · intro f a w1 hf he hI
                      refine ex29 hI (G := fun a => wpOp Try.prog _ _ 1 _ a w1) ?_
                      clear hI
                      intro u23 u24 u25 u26 u27 u28 u29 u30 u31 u32 u33 u34 u35 u36 u37 u38 u39 u40 u41 u42 u43 u44 u45 u46 u47 u48 u49 u50 u51 J
                      show wpOp Try.prog _ _ 1 _ _ w1
                      have hs := J.s
                      clear he
                      refine wpOp_of rfl rfl (fun K hK => ?_)
                      go_simp
                      exact hK _ _ ⟨_, _, _, _, _, _, _, _, _, _, _, _, _, _, _, _, _, _, _, _, _, _, _, _, _, _, _, _, _, rfl, J.put 1 rfl hs⟩
                    · intro f a w1 hf he hI
                      refine ex29 hI (G := fun a => wpOp Try.prog _ _ 2 _ a w1) ?_
                      clear hI
                      intro u23 u24 u25 u26 u27 u28 u29 u30 u31 u32 u33 u34 u35 u36 u37 u38 u39 u40 u41 u42 u43 u44 u45 u46 u47 u48 u49 u50 u51 J
                      show wpOp Try.prog _ _ 2 _ _ w1
                      obtain rfl : u23 = .slice (some ⟨gt, 0, none⟩) D.gates.length D.gates.length := Option.some.inj (J.h 0 (he _ rfl ⟨0, .data⟩ (by simp) rfl))
                      obtain rfl : u24 = .int .i64 (k : Int) := Option.some.inj (J.h 1 (he _ rfl ⟨1, .data⟩ (by simp) rfl))
                      have hs := J.s
                      clear he
                      refine wpOp_of rfl rfl (fun K hK => ?_)
                      go_simp
                      exact hK _ _ ⟨_, _, _, _, _, _, _, _, _, _, _, _, _, _, _, _, _, _, _, _, _, _, _, _, _, _, _, _, _, rfl, J.put 2 rfl hs⟩
                    · intro f a w1 hf he hI
                      refine ex29 hI (G := fun a => wpOp Try.prog _ _ 3 _ a w1) ?_
                      clear hI
                      intro u23 u24 u25 u26 u27 u28 u29 u30 u31 u32 u33 u34 u35 u36 u37 u38 u39 u40 u41 u42 u43 u44 u45 u46 u47 u48 u49 u50 u51 J
                      show wpOp Try.prog _ _ 3 _ _ w1
                      obtain rfl : u25 = .pointer (some ⟨gt, k, none⟩) := Option.some.inj (J.h 2 (he _ rfl ⟨2, .data⟩ (by simp) rfl))
                      have hs := J.s
                      have k11 := (KC.out _ hs).2.2.2.2.2.2.2.2.2.2.2
                      clear he
                      refine wpOp_of rfl rfl (fun K hK => ?_)
                      go_simp
                      exact hK _ _ ⟨_, _, _, _, _, _, _, _, _, _, _, _, _, _, _, _, _, _, _, _, _, _, _, _, _, _, _, _, _, rfl, J.put 3 rfl hs⟩
                    · intro f a w1 hf he hI
                      refine ex29 hI (G := fun a => wpOp Try.prog _ _ 4 _ a w1) ?_
                      clear hI
                      intro u23 u24 u25 u26 u27 u28 u29 u30 u31 u32 u33 u34 u35 u36 u37 u38 u39 u40 u41 u42 u43 u44 u45 u46 u47 u48 u49 u50 u51 J
                      show wpOp Try.prog _ _ 4 _ _ w1
                      obtain rfl : u26 = .bool false := Option.some.inj (J.h 3 (he _ rfl ⟨3, .data⟩ (by simp) rfl))
                      have hs := J.s
                      clear he
                      refine wpOp_of rfl rfl (fun K hK => ?_)
                      go_simp
                      exact hK _ _ ⟨_, _, _, _, _, _, _, _, _, _, _, _, _, _, _, _, _, _, _, _, _, _, _, _, _, _, _, _, _, rfl, J.put 4 rfl hs⟩
                    · intro f a w1 hf he hI
                      refine ex29 hI (G := fun a => wpOp Try.prog _ _ 5 _ a w1) ?_
                      clear hI
                      intro u23 u24 u25 u26 u27 u28 u29 u30 u31 u32 u33 u34 u35 u36 u37 u38 u39 u40 u41 u42 u43 u44 u45 u46 u47 u48 u49 u50 u51 J
                      show wpOp Try.prog _ _ 5 _ _ w1
                      obtain rfl : u27 = .bool true := Option.some.inj (J.h 4 (he _ rfl ⟨4, .data⟩ (by simp) rfl))
                      have hs := J.s
                      clear he
                      refine wpOp_of rfl rfl (fun K hK => ?_)
                      go_simp
                      exact hK _ _ ⟨_, _, _, _, _, _, _, _, _, _, _, _, _, _, _, _, _, _, _, _, _, _, _, _, _, _, _, _, _, rfl, J.put 5 rfl hs⟩
                    · intro f a w1 hf he hI
                      refine ex29 hI (G := fun a => wpOp Try.prog _ _ 6 _ a w1) ?_
                      clear hI
                      intro u23 u24 u25 u26 u27 u28 u29 u30 u31 u32 u33 u34 u35 u36 u37 u38 u39 u40 u41 u42 u43 u44 u45 u46 u47 u48 u49 u50 u51 J
                      show wpOp Try.prog _ _ 6 _ _ w1
                      obtain rfl : u28 = .bool true := Option.some.inj (J.h 5 (he _ rfl ⟨5, .guard⟩ (by simp) rfl))
                      have hs := J.s
                      obtain ⟨k0, k1, k2, k3, k4, k5, k6, k7, k8, -, -, -⟩ := KC.out _ hs
                      clear he
                      refine wpOp_yes rfl (by first | rfl | simp [Region.wanted, yielded]) (fun K hK => ?_)
                      go_simp
                      exact hK _ _ ⟨_, _, _, _, _, _, _, _, _, _, _, _, _, _, _, _, _, _, _, _, _, _, _, _, _, _, _, _, _, rfl, J.put 6 rfl hs⟩
                    · intro f a w1 hf he hI
                      refine ex29 hI (G := fun a => wpOp Try.prog _ _ 7 _ a w1) ?_
                      clear hI
                      intro u23 u24 u25 u26 u27 u28 u29 u30 u31 u32 u33 u34 u35 u36 u37 u38 u39 u40 u41 u42 u43 u44 u45 u46 u47 u48 u49 u50 u51 J
                      show wpOp Try.prog _ _ 7 _ _ w1
                      obtain rfl : u28 = .bool true := Option.some.inj (J.h 5 (he _ rfl ⟨5, .guard⟩ (by simp) rfl))
                      have hs := J.s
                      clear he
                      refine wpOp_yes rfl (by first | rfl | simp [Region.wanted, yielded]) (fun K hK => ?_)
                      go_simp
                      exact hK _ _ ⟨_, _, _, _, _, _, _, _, _, _, _, _, _, _, _, _, _, _, _, _, _, _, _, _, _, _, _, _, _, rfl, J.put 7 rfl hs⟩
                    · intro f a w1 hf he hI
                      refine ex29 hI (G := fun a => wpOp Try.prog _ _ 8 _ a w1) ?_
                      clear hI
                      intro u23 u24 u25 u26 u27 u28 u29 u30 u31 u32 u33 u34 u35 u36 u37 u38 u39 u40 u41 u42 u43 u44 u45 u46 u47 u48 u49 u50 u51 J
                      show wpOp Try.prog _ _ 8 _ _ w1
                      obtain rfl : u28 = .bool true := Option.some.inj (J.h 5 (he _ rfl ⟨5, .guard⟩ (by simp) rfl))
                      have hs := J.s
                      clear he
                      refine wpOp_yes rfl (by first | rfl | simp [Region.wanted, yielded]) (fun K hK => ?_)
                      go_simp
                      exact hK _ _ ⟨_, _, _, _, _, _, _, _, _, _, _, _, _, _, _, _, _, _, _, _, _, _, _, _, _, _, _, _, _, rfl, J.put 8 rfl hs⟩
                    · intro f a w1 hf he hI
                      refine ex29 hI (G := fun a => wpOp Try.prog _ _ 9 _ a w1) ?_
                      clear hI
                      intro u23 u24 u25 u26 u27 u28 u29 u30 u31 u32 u33 u34 u35 u36 u37 u38 u39 u40 u41 u42 u43 u44 u45 u46 u47 u48 u49 u50 u51 J
                      show wpOp Try.prog _ _ 9 _ _ w1
                      obtain rfl : u28 = .bool true := Option.some.inj (J.h 5 (he _ rfl ⟨5, .guard⟩ (by simp) rfl))
                      obtain rfl : u31 = .pointer (some ⟨w.heap.size, 6, none⟩) := Option.some.inj (J.h 8 (he _ rfl ⟨8, .data⟩ (by simp) rfl))
                      have hs := J.s
                      have k6 := (KC.out _ hs).2.2.2.2.2.2.1
                      clear he
                      refine wpOp_yes rfl (by first | rfl | simp [Region.wanted, yielded]) (fun K hK => ?_)
                      go_simp
                      exact hK _ _ ⟨_, _, _, _, _, _, _, _, _, _, _, _, _, _, _, _, _, _, _, _, _, _, _, _, _, _, _, _, _, rfl, J.put 9 rfl hs⟩
                    · intro f a w1 hf he hI
                      refine ex29 hI (G := fun a => wpOp Try.prog _ _ 10 _ a w1) ?_
                      clear hI
                      intro u23 u24 u25 u26 u27 u28 u29 u30 u31 u32 u33 u34 u35 u36 u37 u38 u39 u40 u41 u42 u43 u44 u45 u46 u47 u48 u49 u50 u51 J
                      show wpOp Try.prog _ _ 10 _ _ w1
                      obtain rfl : u28 = .bool true := Option.some.inj (J.h 5 (he _ rfl ⟨5, .guard⟩ (by simp) rfl))
                      have hs := J.s
                      clear he
                      refine wpOp_yes rfl (by first | rfl | simp [Region.wanted, yielded]) (fun K hK => ?_)
                      go_simp
                      exact hK _ _ ⟨_, _, _, _, _, _, _, _, _, _, _, _, _, _, _, _, _, _, _, _, _, _, _, _, _, _, _, _, _, rfl, J.put 10 rfl hs⟩
                    · intro f a w1 hf he hI
                      refine ex29 hI (G := fun a => wpOp Try.prog _ _ 11 _ a w1) ?_
                      clear hI
                      intro u23 u24 u25 u26 u27 u28 u29 u30 u31 u32 u33 u34 u35 u36 u37 u38 u39 u40 u41 u42 u43 u44 u45 u46 u47 u48 u49 u50 u51 J
                      show wpOp Try.prog _ _ 11 _ _ w1
                      obtain rfl : u28 = .bool true := Option.some.inj (J.h 5 (he _ rfl ⟨5, .guard⟩ (by simp) rfl))
                      obtain rfl : u32 = .slice (some ⟨b, off, none⟩) D.gates.length F.cg := Option.some.inj (J.h 9 (he _ rfl ⟨9, .data⟩ (by simp) rfl))
                      obtain rfl : u33 = .int .i64 (k : Int) := Option.some.inj (J.h 10 (he _ rfl ⟨10, .data⟩ (by simp) rfl))
                      have hs := J.s
                      clear he
                      refine wpOp_yes rfl (by first | rfl | simp [Region.wanted, yielded]) (fun K hK => ?_)
                      go_simp
                      exact hK _ _ ⟨_, _, _, _, _, _, _, _, _, _, _, _, _, _, _, _, _, _, _, _, _, _, _, _, _, _, _, _, _, rfl, J.put 11 rfl hs⟩
                    · intro f a w1 hf he hI
                      refine ex29 hI (G := fun a => wpOp Try.prog _ _ 12 _ a w1) ?_
                      clear hI
                      intro u23 u24 u25 u26 u27 u28 u29 u30 u31 u32 u33 u34 u35 u36 u37 u38 u39 u40 u41 u42 u43 u44 u45 u46 u47 u48 u49 u50 u51 J
                      show wpOp Try.prog _ _ 12 _ _ w1
                      obtain rfl : u28 = .bool true := Option.some.inj (J.h 5 (he _ rfl ⟨5, .guard⟩ (by simp) rfl))
                      obtain rfl : u34 = .pointer (some ⟨b, off + k * 3, none⟩) := Option.some.inj (J.h 11 (he _ rfl ⟨11, .data⟩ (by simp) rfl))
                      have hs := J.s
                      clear he
                      refine wpOp_yes rfl (by first | rfl | simp [Region.wanted, yielded]) (fun K hK => ?_)
                      go_simp
                      exact hK _ _ ⟨_, _, _, _, _, _, _, _, _, _, _, _, _, _, _, _, _, _, _, _, _, _, _, _, _, _, _, _, _, rfl, J.put 12 rfl hs⟩
                    · intro f a w1 hf he hI
                      refine ex29 hI (G := fun a => wpOp Try.prog _ _ 13 _ a w1) ?_
                      clear hI
                      intro u23 u24 u25 u26 u27 u28 u29 u30 u31 u32 u33 u34 u35 u36 u37 u38 u39 u40 u41 u42 u43 u44 u45 u46 u47 u48 u49 u50 u51 J
                      show wpOp Try.prog _ _ 13 _ _ w1
                      obtain rfl : u28 = .bool true := Option.some.inj (J.h 5 (he _ rfl ⟨5, .guard⟩ (by simp) rfl))
                      obtain rfl : u35 = .pointer (some ⟨b, off + k * 3 + 1, none⟩) := Option.some.inj (J.h 12 (he _ rfl ⟨12, .data⟩ (by simp) rfl))
                      have hs := J.s
                      have k9 := (KC.out _ hs).2.2.2.2.2.2.2.2.2.1
                      clear he
                      refine wpOp_yes rfl (by first | rfl | simp [Region.wanted, yielded]) (fun K hK => ?_)
                      go_simp
                      exact hK _ _ ⟨_, _, _, _, _, _, _, _, _, _, _, _, _, _, _, _, _, _, _, _, _, _, _, _, _, _, _, _, _, rfl, J.put 13 rfl hs⟩
                    · intro f a w1 hf he hI
                      refine ex29 hI (G := fun a => wpOp Try.prog _ _ 14 _ a w1) ?_
                      clear hI
                      intro u23 u24 u25 u26 u27 u28 u29 u30 u31 u32 u33 u34 u35 u36 u37 u38 u39 u40 u41 u42 u43 u44 u45 u46 u47 u48 u49 u50 u51 J
                      show wpOp Try.prog _ _ 14 _ _ w1
                      obtain rfl : u28 = .bool true := Option.some.inj (J.h 5 (he _ rfl ⟨5, .guard⟩ (by simp) rfl))
                      obtain rfl : u29 = .agg #[.int .i64 D.max, .slice F.ai D.ins.length F.ci, .slice F.al D.lats.length F.cl, .slice F.ao D.outs.length F.co, .slice F.ab D.bads.length F.cb, .slice F.ac D.cons.length F.cc, .slice (some ⟨b, off, none⟩) D.gates.length F.cg, .slice F.as_ D.syms.length F.cs, .string D.com] := Option.some.inj (J.h 6 (he _ rfl ⟨6, .data⟩ (by simp) rfl))
                      obtain rfl : u30 = .slice (some ⟨gt, 0, none⟩) D.gates.length D.gates.length := Option.some.inj (J.h 7 (he _ rfl ⟨7, .data⟩ (by simp) rfl))
                      obtain rfl : u36 = .int .i64 ga := Option.some.inj (J.h 13 (he _ rfl ⟨13, .data⟩ (by simp) rfl))
                      have hs := J.s
                      clear he
                      refine wpOp_yes rfl (by first | rfl | simp [Region.wanted, yielded]) (fun K hK => ?_)
                      go_simp
                      go_wp2_with (go_at_call 31; refine (HCA.out _ hs).mono ?_; rintro e w2 ⟨rfl, hb⟩); have hs2 := hs.trans (hb.mono hs.size)
                      exact ⟨_, _, _, _, _, _, _, _, _, _, _, _, _, _, _, _, _, _, _, _, _, _, _, _, _, _, _, _, _, rfl, J.put 14 rfl hs2⟩
                    · intro f a w1 hf he hI
                      refine ex29 hI (G := fun a => wpOp Try.prog _ _ 15 _ a w1) ?_
                      clear hI
                      intro u23 u24 u25 u26 u27 u28 u29 u30 u31 u32 u33 u34 u35 u36 u37 u38 u39 u40 u41 u42 u43 u44 u45 u46 u47 u48 u49 u50 u51 J
                      show wpOp Try.prog _ _ 15 _ _ w1
                      obtain rfl : u28 = .bool true := Option.some.inj (J.h 5 (he _ rfl ⟨5, .guard⟩ (by simp) rfl))
                      obtain rfl : u37 = .bool false := Option.some.inj (J.h 14 (he _ rfl ⟨14, .data⟩ (by simp) rfl))
                      have hs := J.s
                      clear he
                      refine wpOp_yes rfl (by first | rfl | simp [Region.wanted, yielded]) (fun K hK => ?_)
                      go_simp
                      exact hK _ _ ⟨_, _, _, _, _, _, _, _, _, _, _, _, _, _, _, _, _, _, _, _, _, _, _, _, _, _, _, _, _, rfl, J.put 15 rfl hs⟩
                    · intro f a w1 hf he hI
                      refine ex29 hI (G := fun a => wpOp Try.prog _ _ 16 _ a w1) ?_
                      clear hI
                      intro u23 u24 u25 u26 u27 u28 u29 u30 u31 u32 u33 u34 u35 u36 u37 u38 u39 u40 u41 u42 u43 u44 u45 u46 u47 u48 u49 u50 u51 J
                      show wpOp Try.prog _ _ 16 _ _ w1
                      obtain rfl : u28 = .bool true := Option.some.inj (J.h 5 (he _ rfl ⟨5, .data⟩ (by simp) rfl))
                      obtain rfl : u38 = .bool true := Option.some.inj (J.h 15 (he _ rfl ⟨15, .data⟩ (by simp) rfl))
                      have hs := J.s
                      clear he
                      refine wpOp_of rfl rfl (fun K hK => ?_)
                      go_simp
                      exact hK _ _ ⟨_, _, _, _, _, _, _, _, _, _, _, _, _, _, _, _, _, _, _, _, _, _, _, _, _, _, _, _, _, rfl, J.put 16 rfl hs⟩
                    · intro f a w1 hf he hI
                      refine ex29 hI (G := fun a => wpOp Try.prog _ _ 17 _ a w1) ?_
                      clear hI
                      intro u23 u24 u25 u26 u27 u28 u29 u30 u31 u32 u33 u34 u35 u36 u37 u38 u39 u40 u41 u42 u43 u44 u45 u46 u47 u48 u49 u50 u51 J
                      show wpOp Try.prog _ _ 17 _ _ w1
                      obtain rfl : u39 = .bool true := Option.some.inj (J.h 16 (he _ rfl ⟨16, .data⟩ (by simp) rfl))
                      have hs := J.s
                      clear he
                      refine wpOp_of rfl rfl (fun K hK => ?_)
                      go_simp
                      exact hK _ _ ⟨_, _, _, _, _, _, _, _, _, _, _, _, _, _, _, _, _, _, _, _, _, _, _, _, _, _, _, _, _, rfl, J.put 17 rfl hs⟩
                    · intro f a w1 hf he hI
                      refine ex29 hI (G := fun a => wpOp Try.prog _ _ 18 _ a w1) ?_
                      clear hI
                      intro u23 u24 u25 u26 u27 u28 u29 u30 u31 u32 u33 u34 u35 u36 u37 u38 u39 u40 u41 u42 u43 u44 u45 u46 u47 u48 u49 u50 u51 J
                      show wpOp Try.prog _ _ 18 _ _ w1
                      obtain rfl : u40 = .bool true := Option.some.inj (J.h 17 (he _ rfl ⟨17, .guard⟩ (by simp) rfl))
                      have hs := J.s
                      obtain ⟨k0, k1, k2, k3, k4, k5, k6, k7, k8, -, -, -⟩ := KC.out _ hs
                      clear he
                      refine wpOp_yes rfl (by first | rfl | simp [Region.wanted, yielded]) (fun K hK => ?_)
                      go_simp
                      exact hK _ _ ⟨_, _, _, _, _, _, _, _, _, _, _, _, _, _, _, _, _, _, _, _, _, _, _, _, _, _, _, _, _, rfl, J.put 18 rfl hs⟩
                    · intro f a w1 hf he hI
                      refine ex29 hI (G := fun a => wpOp Try.prog _ _ 19 _ a w1) ?_
                      clear hI
                      intro u23 u24 u25 u26 u27 u28 u29 u30 u31 u32 u33 u34 u35 u36 u37 u38 u39 u40 u41 u42 u43 u44 u45 u46 u47 u48 u49 u50 u51 J
                      show wpOp Try.prog _ _ 19 _ _ w1
                      obtain rfl : u40 = .bool true := Option.some.inj (J.h 17 (he _ rfl ⟨17, .guard⟩ (by simp) rfl))
                      have hs := J.s
                      clear he
                      refine wpOp_yes rfl (by first | rfl | simp [Region.wanted, yielded]) (fun K hK => ?_)
                      go_simp
                      exact hK _ _ ⟨_, _, _, _, _, _, _, _, _, _, _, _, _, _, _, _, _, _, _, _, _, _, _, _, _, _, _, _, _, rfl, J.put 19 rfl hs⟩
                    · intro f a w1 hf he hI
                      refine ex29 hI (G := fun a => wpOp Try.prog _ _ 20 _ a w1) ?_
                      clear hI
                      intro u23 u24 u25 u26 u27 u28 u29 u30 u31 u32 u33 u34 u35 u36 u37 u38 u39 u40 u41 u42 u43 u44 u45 u46 u47 u48 u49 u50 u51 J
                      show wpOp Try.prog _ _ 20 _ _ w1
                      obtain rfl : u40 = .bool true := Option.some.inj (J.h 17 (he _ rfl ⟨17, .guard⟩ (by simp) rfl))
                      have hs := J.s
                      clear he
                      refine wpOp_yes rfl (by first | rfl | simp [Region.wanted, yielded]) (fun K hK => ?_)
                      go_simp
                      exact hK _ _ ⟨_, _, _, _, _, _, _, _, _, _, _, _, _, _, _, _, _, _, _, _, _, _, _, _, _, _, _, _, _, rfl, J.put 20 rfl hs⟩
                    · intro f a w1 hf he hI
                      refine ex29 hI (G := fun a => wpOp Try.prog _ _ 21 _ a w1) ?_
                      clear hI
                      intro u23 u24 u25 u26 u27 u28 u29 u30 u31 u32 u33 u34 u35 u36 u37 u38 u39 u40 u41 u42 u43 u44 u45 u46 u47 u48 u49 u50 u51 J
                      show wpOp Try.prog _ _ 21 _ _ w1
                      obtain rfl : u40 = .bool true := Option.some.inj (J.h 17 (he _ rfl ⟨17, .guard⟩ (by simp) rfl))
                      obtain rfl : u43 = .pointer (some ⟨w.heap.size, 6, none⟩) := Option.some.inj (J.h 20 (he _ rfl ⟨20, .data⟩ (by simp) rfl))
                      have hs := J.s
                      have k6 := (KC.out _ hs).2.2.2.2.2.2.1
                      clear he
                      refine wpOp_yes rfl (by first | rfl | simp [Region.wanted, yielded]) (fun K hK => ?_)
                      go_simp
                      exact hK _ _ ⟨_, _, _, _, _, _, _, _, _, _, _, _, _, _, _, _, _, _, _, _, _, _, _, _, _, _, _, _, _, rfl, J.put 21 rfl hs⟩
                    · intro f a w1 hf he hI
                      refine ex29 hI (G := fun a => wpOp Try.prog _ _ 22 _ a w1) ?_
                      clear hI
                      intro u23 u24 u25 u26 u27 u28 u29 u30 u31 u32 u33 u34 u35 u36 u37 u38 u39 u40 u41 u42 u43 u44 u45 u46 u47 u48 u49 u50 u51 J
                      show wpOp Try.prog _ _ 22 _ _ w1
                      obtain rfl : u40 = .bool true := Option.some.inj (J.h 17 (he _ rfl ⟨17, .guard⟩ (by simp) rfl))
                      have hs := J.s
                      clear he
                      refine wpOp_yes rfl (by first | rfl | simp [Region.wanted, yielded]) (fun K hK => ?_)
                      go_simp
                      exact hK _ _ ⟨_, _, _, _, _, _, _, _, _, _, _, _, _, _, _, _, _, _, _, _, _, _, _, _, _, _, _, _, _, rfl, J.put 22 rfl hs⟩
                    · intro f a w1 hf he hI
                      refine ex29 hI (G := fun a => wpOp Try.prog _ _ 23 _ a w1) ?_
                      clear hI
                      intro u23 u24 u25 u26 u27 u28 u29 u30 u31 u32 u33 u34 u35 u36 u37 u38 u39 u40 u41 u42 u43 u44 u45 u46 u47 u48 u49 u50 u51 J
                      show wpOp Try.prog _ _ 23 _ _ w1
                      obtain rfl : u40 = .bool true := Option.some.inj (J.h 17 (he _ rfl ⟨17, .guard⟩ (by simp) rfl))
                      obtain rfl : u44 = .slice (some ⟨b, off, none⟩) D.gates.length F.cg := Option.some.inj (J.h 21 (he _ rfl ⟨21, .data⟩ (by simp) rfl))
                      obtain rfl : u45 = .int .i64 (k : Int) := Option.some.inj (J.h 22 (he _ rfl ⟨22, .data⟩ (by simp) rfl))
                      have hs := J.s
                      clear he
                      refine wpOp_yes rfl (by first | rfl | simp [Region.wanted, yielded]) (fun K hK => ?_)
                      go_simp
                      exact hK _ _ ⟨_, _, _, _, _, _, _, _, _, _, _, _, _, _, _, _, _, _, _, _, _, _, _, _, _, _, _, _, _, rfl, J.put 23 rfl hs⟩
                    · intro f a w1 hf he hI
                      refine ex29 hI (G := fun a => wpOp Try.prog _ _ 24 _ a w1) ?_
                      clear hI
                      intro u23 u24 u25 u26 u27 u28 u29 u30 u31 u32 u33 u34 u35 u36 u37 u38 u39 u40 u41 u42 u43 u44 u45 u46 u47 u48 u49 u50 u51 J
                      show wpOp Try.prog _ _ 24 _ _ w1
                      obtain rfl : u40 = .bool true := Option.some.inj (J.h 17 (he _ rfl ⟨17, .guard⟩ (by simp) rfl))
                      obtain rfl : u46 = .pointer (some ⟨b, off + k * 3, none⟩) := Option.some.inj (J.h 23 (he _ rfl ⟨23, .data⟩ (by simp) rfl))
                      have hs := J.s
                      clear he
                      refine wpOp_yes rfl (by first | rfl | simp [Region.wanted, yielded]) (fun K hK => ?_)
                      go_simp
                      exact hK _ _ ⟨_, _, _, _, _, _, _, _, _, _, _, _, _, _, _, _, _, _, _, _, _, _, _, _, _, _, _, _, _, rfl, J.put 24 rfl hs⟩
                    · intro f a w1 hf he hI
                      refine ex29 hI (G := fun a => wpOp Try.prog _ _ 25 _ a w1) ?_
                      clear hI
                      intro u23 u24 u25 u26 u27 u28 u29 u30 u31 u32 u33 u34 u35 u36 u37 u38 u39 u40 u41 u42 u43 u44 u45 u46 u47 u48 u49 u50 u51 J
                      show wpOp Try.prog _ _ 25 _ _ w1
                      obtain rfl : u40 = .bool true := Option.some.inj (J.h 17 (he _ rfl ⟨17, .guard⟩ (by simp) rfl))
                      obtain rfl : u47 = .pointer (some ⟨b, off + k * 3 + 2, none⟩) := Option.some.inj (J.h 24 (he _ rfl ⟨24, .data⟩ (by simp) rfl))
                      have hs := J.s
                      have k10 := (KC.out _ hs).2.2.2.2.2.2.2.2.2.2.1
                      clear he
                      refine wpOp_yes rfl (by first | rfl | simp [Region.wanted, yielded]) (fun K hK => ?_)
                      go_simp
                      exact hK _ _ ⟨_, _, _, _, _, _, _, _, _, _, _, _, _, _, _, _, _, _, _, _, _, _, _, _, _, _, _, _, _, rfl, J.put 25 rfl hs⟩
                    · intro f a w1 hf he hI
                      refine ex29 hI (G := fun a => wpOp Try.prog _ _ 26 _ a w1) ?_
                      clear hI
                      intro u23 u24 u25 u26 u27 u28 u29 u30 u31 u32 u33 u34 u35 u36 u37 u38 u39 u40 u41 u42 u43 u44 u45 u46 u47 u48 u49 u50 u51 J
                      show wpOp Try.prog _ _ 26 _ _ w1
                      obtain rfl : u40 = .bool true := Option.some.inj (J.h 17 (he _ rfl ⟨17, .guard⟩ (by simp) rfl))
                      obtain rfl : u41 = .agg #[.int .i64 D.max, .slice F.ai D.ins.length F.ci, .slice F.al D.lats.length F.cl, .slice F.ao D.outs.length F.co, .slice F.ab D.bads.length F.cb, .slice F.ac D.cons.length F.cc, .slice (some ⟨b, off, none⟩) D.gates.length F.cg, .slice F.as_ D.syms.length F.cs, .string D.com] := Option.some.inj (J.h 18 (he _ rfl ⟨18, .data⟩ (by simp) rfl))
                      obtain rfl : u42 = .slice (some ⟨gt, 0, none⟩) D.gates.length D.gates.length := Option.some.inj (J.h 19 (he _ rfl ⟨19, .data⟩ (by simp) rfl))
                      obtain rfl : u48 = .int .i64 gb := Option.some.inj (J.h 25 (he _ rfl ⟨25, .data⟩ (by simp) rfl))
                      have hs := J.s
                      clear he
                      refine wpOp_yes rfl (by first | rfl | simp [Region.wanted, yielded]) (fun K hK => ?_)
                      go_simp
                      go_wp2_with (go_at_call 31; refine (HCB.out _ hs).mono ?_; rintro e w2 ⟨rfl, hb⟩); have hs2 := hs.trans (hb.mono hs.size)
                      exact ⟨_, _, _, _, _, _, _, _, _, _, _, _, _, _, _, _, _, _, _, _, _, _, _, _, _, _, _, _, _, rfl, J.put 26 rfl hs2⟩
                    · intro f a w1 hf he hI
                      refine ex29 hI (G := fun a => wpOp Try.prog _ _ 27 _ a w1) ?_
                      clear hI
                      intro u23 u24 u25 u26 u27 u28 u29 u30 u31 u32 u33 u34 u35 u36 u37 u38 u39 u40 u41 u42 u43 u44 u45 u46 u47 u48 u49 u50 u51 J
                      show wpOp Try.prog _ _ 27 _ _ w1
                      obtain rfl : u40 = .bool true := Option.some.inj (J.h 17 (he _ rfl ⟨17, .guard⟩ (by simp) rfl))
                      obtain rfl : u49 = .bool false := Option.some.inj (J.h 26 (he _ rfl ⟨26, .data⟩ (by simp) rfl))
                      have hs := J.s
                      clear he
                      refine wpOp_yes rfl (by first | rfl | simp [Region.wanted, yielded]) (fun K hK => ?_)
                      go_simp
                      exact hK _ _ ⟨_, _, _, _, _, _, _, _, _, _, _, _, _, _, _, _, _, _, _, _, _, _, _, _, _, _, _, _, _, rfl, J.put 27 rfl hs⟩
                    · intro f a w1 hf he hI
                      refine ex29 hI (G := fun a => wpOp Try.prog _ _ 28 _ a w1) ?_
                      clear hI
                      intro u23 u24 u25 u26 u27 u28 u29 u30 u31 u32 u33 u34 u35 u36 u37 u38 u39 u40 u41 u42 u43 u44 u45 u46 u47 u48 u49 u50 u51 J
                      show wpOp Try.prog _ _ 28 _ _ w1
                      obtain rfl : u40 = .bool true := Option.some.inj (J.h 17 (he _ rfl ⟨17, .data⟩ (by simp) rfl))
                      obtain rfl : u50 = .bool true := Option.some.inj (J.h 27 (he _ rfl ⟨27, .data⟩ (by simp) rfl))
                      have hs := J.s
                      clear he
                      refine wpOp_of rfl rfl (fun K hK => ?_)
                      go_simp
                      exact hK _ _ ⟨_, _, _, _, _, _, _, _, _, _, _, _, _, _, _, _, _, _, _, _, _, _, _, _, _, _, _, _, _, rfl, J.put 28 rfl hs⟩
                  · intro f a w1 hall hI
                    obtain ⟨u23, u24, u25, u26, u27, u28, u29, u30, u31, u32, u33, u34, u35, u36, u37, u38, u39, u40, u41, u42, u43, u44, u45, u46, u47, u48, u49, u50, u51, rfl, J⟩ := hI
                    obtain rfl : u51 = .bool true := Option.some.inj (J.h 28 (hall 28 (by decide)))
                    have hs := J.s
                    clear J hall
                    have HZ2 : Hid ((k : Int) = nextZ D.gates bs (k + 1)) := Lib.hid (by unfold nextZ; rw [next_yes HNO.out HFR.out])
                    have HBW2 : Hid (Below wo.heap.size wo w1) := Lib.hid (HBW.out.trans (hs.mono HBW.out.size))
                    clear KC
                    go_wp2_with fail
                    go_roundw
                    case rel => exact ⟨k + 1, (k : Int), by omega, by go_num, rfl, HZ2, HBW2⟩
                    case measure => simp [intOf]; omega

          · have hkn : k = D.gates.length := by omega
            subst hkn
            have d1 : decide ((D.gates.length : Int) < (D.gates.length : Int)) = false := by simp
            have HT : Hid (Tells (orderL D.gates) w (.returned u3) wi) := Lib.hid (by
              have h := HS.out.2.2
              rw [ord_none HNO.out, List.append_nil] at h
              rw [← h]
              have o := HO.out.on HBW.out
              exact ⟨u3, rfl, Joins.ownsRow_le o.row HB.out.size, HB.out.trans (o.bel.mono HB.out.size)⟩)
            clear hlt hk
            go_wp2_with fail
            go_ret
            exact HT.out
        | some j =>
          obtain rfl : z = (j : Int) := by rw [HZ.out]; unfold nextZ; rw [hno]
          have hjk : j < D.gates.length := by have := (next_spec hno).1; omega
          have HFR := Lib.hid (next_spec hno).2
          have HNX := Lib.hid (next_mono hno D.gates.length hk)
          clear hno HZ
          have d3 : 0 ≤ (j : Int) := by omega
          have d4 : (j : Int) < (D.gates.length : Int) := by omega
          have d5 : decide ((j : Int) < 0) = false := by simp
          have o1 := HO.out.on HBW.out
          have HLV := Lib.hid (lenV_own HO.out.row)
          have hcs := cnt_set bs j (by rw [HS.out.1]; exact hjk) (free_told HFR.out)
          have HLT : Hid (L.length < D.gates.length) := Lib.hid (by have := HS.out.2.1; omega)
          have hLn : L.length ≤ 1000 := by have := HLT.out; omega
          have HS2 : Hid ((bs.set j true).length = D.gates.length ∧ cntF (bs.set j true) + (L ++ [(j : Int)]).length = D.gates.length ∧ (L ++ [(j : Int)]) ++ ordF D.gates (cntF (bs.set j true)) (bs.set j true) = orderL D.gates) := Lib.hid (by
            obtain ⟨q1, q2, q3⟩ := HS.out
            refine ⟨by rw [List.length_set]; exact q1, by rw [List.length_append, List.length_singleton]; omega, ?_⟩
            rw [← hcs, ord_some HNX.out] at q3
            rw [List.append_assoc]; exact q3)
          have HO1 := Lib.hid o1
          have HROW := Lib.hid (own_on o1.row ((Below.refl _ wi).alloc (Nat.le_refl _) (.cells #[.int .i64 (j : Int)] 3)))
          have HJB : Hid (j < bs.length) := Lib.hid (by rw [HS.out.1]; exact hjk)
          clear o1 hcs
          by_cases hlt : k < D.gates.length
          all_goals
            first | (have d1 : decide ((k : Int) < (D.gates.length : Int)) = true := by simp; omega) | (have d1 : decide ((k : Int) < (D.gates.length : Int)) = false := by simp; omega)
            go_wp2_with (at_builtin; refine wpList_append_lies _ rfl (.tmp 56) (.tmp 58) 22 rfl v.heap.size 3 i0 (.int .i64 0) 1 8 Try.underlying22 hi hz0 hz1 hz2 rfl (by decide) u3 L.length (L.map (Value.int .i64)) rfl HROW.out ⟨wi.heap.size, 0, none⟩ 1 1 [.int .i64 (j : Int)] rfl rfl (news1 _ _ _) (one_cell _) (by omega) (by unfold maxLen; omega) (by omega) (by simp; omega) _ rfl ?_)
            intro t2 c2 w3 hown hgrow hat _
            have HE := Lib.hid (OT.add HO1.out hown hgrow (hat.imp id (fun e => by omega)))
            clear hown hgrow hat
            obtain ⟨x9, f9⟩ := HE.out.cell HJB.out
            have hgt3 := HE.out.told.lt
            have HE2 := Lib.hid (HE.out.tell j)
            go_wp2_with fail
            go_roundw
            case rel => exact ⟨L ++ [(j : Int)], bs.set j true, HS2, HE2⟩
            case measure =>
              have := HLT.out
              rw [HLV.out]
              show D.gates.length - (L.length + 1) < D.gates.length - L.length
              omega
end Go.Proofs.Ytbpjflghkkkenaa.row

/- The document's Check of circuits, purely; Has; what its answer says of the gates. -/
namespace Go.Proofs.Ytbpjflghkkkenaa.row
open Go.RowKit
open Go.Proofs.Ytbpjflghkkkenaa.mem (own_on addr_add)
open Go.Proofs.Ytbpjflghkkkenaa.ints (Ints)

theorem ints_form {w : World} {v : Value} {zs : List Int} (h : Ints w v zs) : ∃ a cap, v = .slice a zs.length cap ∧ zs.length ≤ cap ∧ cap ≤ maxLen := by
  obtain ⟨a, cap, hv, h1, h2, -⟩ := h; exact ⟨a, cap, hv, h1, h2⟩
def hasI (S : List Int) (x : Int) : Bool := decide (x ∈ S)
theorem hasI_yes {S : List Int} {x : Int} {k : Nat} (hk : k < S.length) (h : S.getD k 0 = x) : hasI S x = true := by
  unfold hasI
  rw [decide_eq_true_iff, ← h]
  have e : S.getD k 0 = S[k] := by simp [List.getD, hk]
  rw [e]; exact List.getElem_mem hk
theorem hasI_no {S : List Int} {x : Int} (h : ∀ k, k < S.length → S.getD k 0 ≠ x) : hasI S x = false := by
  unfold hasI
  rw [decide_eq_false_iff_not]
  intro hm
  obtain ⟨k, hk, e⟩ := List.getElem_of_mem hm
  exact h k hk (by simpa [List.getD, hk] using e)
theorem refHas_any (v : Value) (S : List Int) (x : Int) (w : World) (hv : Ints w v S) (hn : S.length ≤ 100000) :
    Calls Try.prog 24 #[v, .int .i64 x] w fun e w' => e = .returned (.bool (hasI S x)) ∧ w = w' := by
  have HV := Lib.hid hv
  obtain ⟨a, cap, rfl, l1, l2⟩ := ints_form hv
  unfold maxLen at l2
  obtain ⟨n, hnn⟩ : ∃ n, n = S.length := ⟨_, rfl⟩
  rw [← hnn] at l1 hn HV ⊢
  have HN := Lib.hid hnn
  clear hv hnn
  go_enter Try.func24, Try.ntmps24
  go_wp2_with fail
  go_loop [5] (fun i => ∃ k : Nat, k ≤ n ∧ i = .int .i64 k ∧ Hid (∀ j, j < k → S.getD j 0 ≠ x)) (fun i => n - (intOf i).toNat)
  case atStart => exact ⟨0, Nat.zero_le _, rfl, Lib.hid (fun j hj => by omega)⟩
  case round =>
    obtain ⟨k, hk, rfl, HJ⟩ := hrel
    by_cases hlt : k < n
    · obtain ⟨b, off, rfl, -, e1⟩ := Go.Proofs.Ytbpjflghkkkenaa.ints.ints_cell HV.out hlt
      obtain ⟨z, hz⟩ : ∃ z, z = S.getD k 0 := ⟨_, rfl⟩
      rw [← hz] at e1
      have d1 : (k : Int) < (n : Int) := by omega
      have d2 : 0 ≤ (k : Int) := by omega
      by_cases hx : z = x
      · have c1 : (z == x) = true := by simpa using hx
        have HR : Hid (hasI S x = true) := Lib.hid (hasI_yes (k := k) (by rw [← HN.out]; exact hlt) (by rw [← hz]; exact hx))
        clear hx hz
        go_wp2_with fail
        go_ret
        exact ⟨Go.Proofs.Ytbpjflghkkkenaa.ints.retB HR.out.symm, rfl⟩
      · have c1 : (z == x) = false := by simpa using hx
        have HJ2 : Hid (∀ j, j < k + 1 → S.getD j 0 ≠ x) := Lib.hid (fun j hj => by
          by_cases e : j = k
          · rw [e, ← hz]; exact hx
          · exact HJ.out j (by omega))
        clear hx hz
        go_wp2_with fail
        go_round
        case rel => exact ⟨k + 1, by omega, by go_num, HJ2⟩
        case measure => simp [intOf]; omega
    · obtain rfl : n = k := by omega
      have HR : Hid (hasI S x = false) := Lib.hid (hasI_no (fun j hj => HJ.out j (by rw [HN.out]; exact hj)))
      clear hlt hk
      go_wp2_with fail
      go_ret
      exact ⟨Go.Proofs.Ytbpjflghkkkenaa.ints.retB HR.out.symm, rfl⟩
/-! ## Check, purely -/
def badO (m x : Int) : Bool := decide (x < 2) || (decide (x % 2 = 1) || decide (x > 2 * m))
def badU (m x : Int) : Bool := decide (x < 0) || decide (x > 2 * m + 1)
def badR (t : Tri) : Bool := !decide (t.2.2 = 0) && (!decide (t.2.2 = 1) && !decide (t.2.2 = t.1))
def dupI (own : List Int) (i : Nat) : Bool := hasI (own.take i) (own.getD i 0)
def misU (own : List Int) (x : Int) : Bool := decide (x > 1) && !hasI own (x - x % 2)
/-- whether one of the first k is so -/
def someTo (p : Nat → Bool) (k : Nat) : Bool := (List.range k).any p
theorem some_step (p : Nat → Bool) (k : Nat) : someTo p (k + 1) = (someTo p k || p k) := by
  unfold someTo
  rw [List.range_succ, List.any_append]; simp
theorem some_at {p : Nat → Bool} {k n : Nat} (h : p k = true) (hk : k < n) : someTo p n = true := by
  unfold someTo
  rw [List.any_eq_true]
  exact ⟨k, List.mem_range.2 hk, h⟩
theorem some_not {p : Nat → Bool} {n : Nat} (h : someTo p n = false) {k : Nat} (hk : k < n) : p k = false := by
  cases e : p k with
  | false => rfl
  | true => rw [some_at e hk] at h; cases h
theorem some_no {p : Nat → Bool} {k : Nat} (h : someTo p k = false) (hp : p k = false) : someTo p (k + 1) = false := by rw [some_step, h, hp]; rfl
def c1B (D : CD) : Bool := decide (D.max < 0) || decide (D.max > 16777216)
def c2B (D : CD) : Bool := someTo (fun i => badO D.max ((ownedL D).getD i 0)) (ownedL D).length
def c3B (D : CD) : Bool := someTo (fun i => badU D.max ((usedL D).getD i 0)) (usedL D).length
def c4B (D : CD) : Bool := someTo (fun i => badR (D.lats.getD i (0, 0, 0))) D.lats.length
def c5B (D : CD) : Bool := someTo (dupI (ownedL D)) (ownedL D).length
def c6B (D : CD) : Bool := someTo (fun i => misU (ownedL D) ((usedL D).getD i 0)) (usedL D).length
def c7B (D : CD) : Bool := decide ((orderL D.gates).length < D.gates.length)
def checkF (D : CD) : Int := if c1B D = true then 5 else if c2B D = true then 5 else if c3B D = true then 5 else if c4B D = true then 5 else if c5B D = true then 7 else if c6B D = true then 9 else if c7B D = true then 8 else 0
theorem owned_mem {D : CD} {t : Tri} (h : t ∈ D.gates) : t.1 ∈ ownedL D := by
  unfold ownedL
  exact List.mem_append_right _ (List.mem_map.2 ⟨t, h, rfl⟩)
theorem used_mem {D : CD} {t : Tri} (h : t ∈ D.gates) : t.2.1 ∈ usedL D ∧ t.2.2 ∈ usedL D := by
  unfold usedL
  exact ⟨List.mem_append_right _ (List.mem_flatMap.2 ⟨t, h, by simp⟩), List.mem_append_right _ (List.mem_flatMap.2 ⟨t, h, by simp⟩)⟩
theorem some_mem {p : Int → Bool} {l : List Int} (h : someTo (fun i => p (l.getD i 0)) l.length = false) {x : Int} (hx : x ∈ l) : p x = false := by
  obtain ⟨i, hi, e⟩ := List.getElem_of_mem hx
  have := some_not h hi
  have e2 : l.getD i 0 = x := by simp [List.getD, hi, e]
  rw [e2] at this; exact this
theorem gates_lit {D : CD} (h1 : c1B D = false) (h2 : c2B D = false) (h3 : c3B D = false) : ∀ t ∈ D.gates, Lit3 t := by
  intro t ht
  have a := some_mem h2 (owned_mem ht)
  have b := some_mem h3 (used_mem ht).1
  have c := some_mem h3 (used_mem ht).2
  unfold c1B at h1
  unfold badO at a
  unfold badU at b c
  simp only [Bool.or_eq_false_iff, decide_eq_false_iff_not] at h1 a b c
  unfold Lit3
  omega
end Go.Proofs.Ytbpjflghkkkenaa.row

/- The walk of the document's Check of circuits. (Printed by mkN12.py.) -/
namespace Go.Proofs.Ytbpjflghkkkenaa.row
open Go.RowKit
open Go.Proofs.Ytbpjflghkkkenaa.mem (own_on addr_add)
open Go.Proofs.Ytbpjflghkkkenaa.ints (Ints ints_of_owned ints_cell below_drewN)

/-- how a number is told, with memory made -/
def SaysI (z : Int) (w : World) (e : Ending) (w' : World) : Prop := e = .returned (.int .i64 z) ∧ Below w.heap.size w w'
theorem ck1 {D : CD} (h1 : c1B D = true) : checkF D = 5 := by unfold checkF; rw [if_pos h1]
theorem ck2 {D : CD} (h1 : c1B D = false) (h2 : c2B D = true) : checkF D = 5 := by unfold checkF; simp [h1, h2]
theorem ck3 {D : CD} (h1 : c1B D = false) (h2 : c2B D = false) (h3 : c3B D = true) : checkF D = 5 := by unfold checkF; simp [h1, h2, h3]
theorem ck4 {D : CD} (h1 : c1B D = false) (h2 : c2B D = false) (h3 : c3B D = false) (h4 : c4B D = true) : checkF D = 5 := by unfold checkF; simp [h1, h2, h3, h4]
theorem ck5 {D : CD} (h1 : c1B D = false) (h2 : c2B D = false) (h3 : c3B D = false) (h4 : c4B D = false) (h5 : c5B D = true) : checkF D = 7 := by unfold checkF; simp [h1, h2, h3, h4, h5]
theorem ck6 {D : CD} (h1 : c1B D = false) (h2 : c2B D = false) (h3 : c3B D = false) (h4 : c4B D = false) (h5 : c5B D = false) (h6 : c6B D = true) : checkF D = 9 := by unfold checkF; simp [h1, h2, h3, h4, h5, h6]
theorem ck7 {D : CD} (h1 : c1B D = false) (h2 : c2B D = false) (h3 : c3B D = false) (h4 : c4B D = false) (h5 : c5B D = false) (h6 : c6B D = false) : checkF D = if c7B D = true then 8 else 0 := by unfold checkF; simp [h1, h2, h3, h4, h5, h6]
theorem owned_at {D : CD} (hf : Fits D) (i : Nat) : In64 ((ownedL D).getD i 0) := by
  have key : ∀ z ∈ ownedL D, In64 z := by
    intro z hz
    unfold ownedL at hz
    rcases List.mem_append.1 hz with hz | hz
    · rcases List.mem_append.1 hz with hz | hz
      · exact hf.i z hz
      · obtain ⟨t, ht, rfl⟩ := List.mem_map.1 hz; exact (hf.l t ht).1
    · obtain ⟨t, ht, rfl⟩ := List.mem_map.1 hz; exact (hf.g t ht).1
  by_cases h : i < (ownedL D).length
  · have e : (ownedL D).getD i 0 = (ownedL D)[i] := by simp [List.getD, h]
    rw [e]; exact key _ (List.getElem_mem h)
  · simp only [List.getD]; rw [List.getElem?_eq_none (by omega)]; unfold In64; simp
theorem used_at {D : CD} (hf : Fits D) (i : Nat) : In64 ((usedL D).getD i 0) := by
  have key : ∀ z ∈ usedL D, In64 z := by
    intro z hz
    unfold usedL at hz
    rcases List.mem_append.1 hz with hz | hz
    · rcases List.mem_append.1 hz with hz | hz
      · rcases List.mem_append.1 hz with hz | hz
        · rcases List.mem_append.1 hz with hz | hz
          · exact hf.o z hz
          · exact hf.b z hz
        · exact hf.c z hz
      · obtain ⟨t, ht, rfl⟩ := List.mem_map.1 hz; exact (hf.l t ht).2.1
    · obtain ⟨t, ht, hz⟩ := List.mem_flatMap.1 hz
      simp at hz
      rcases hz with rfl | rfl
      · exact (hf.g t ht).2.1
      · exact (hf.g t ht).2.2
  by_cases h : i < (usedL D).length
  · have e : (usedL D).getD i 0 = (usedL D)[i] := by simp [List.getD, h]
    rw [e]; exact key _ (List.getElem_mem h)
  · simp only [List.getD]; rw [List.getElem?_eq_none (by omega)]; unfold In64; simp
theorem owned_len' (D : CD) (h : Lens D) : (ownedL D).length ≤ 3000 := by rw [← owned_all]; exact owned_len D h _ _
theorem used_len' (D : CD) (h : Lens D) : (usedL D).length ≤ 6000 := by rw [← used_all]; exact used_len D h _ _
set_option maxRecDepth 100000 in
set_option maxHeartbeats 6400000 in
theorem refCheck_any (D : CD) (F : CF) (P : Nat → Prop) (w : World) (hc : InC P w D F) (hl : Lens D) (hf : Fits D) :
    Calls Try.prog 10 #[cval D F] w (SaysI (checkF D) w) := by
  have HL := Lib.hid hl
  have HC := Lib.hid hc
  have HF := Lib.hid hf
  clear hc hl hf
  go_enter Try.func10, Try.ntmps10
  go_upto_region 1 with fail
  have X0 := blk_new w (ccells D F) 27
  have B0 : Below w.heap.size w (w.alloc (.cells (ccells D F) 27)) := (Below.refl _ _).alloc (Nat.le_refl _) _
  have I0 := HC.out.on B0
  clear HC
  generalize w.alloc (.cells (ccells D F) 27) = v at *
  have HX := Lib.hid X0
  have HB := Lib.hid B0
  have HI := Lib.hid I0
  have hX := X0.lt
  have x0 : v.cell? ⟨w.heap.size, 0, none⟩ = some (.int .i64 D.max) := (X0.cell 0).1
  clear X0 B0 I0
  cases hm1 : decide (D.max < 0) with
  | true =>
    have HT : Hid (SaysI (checkF D) w (.returned (.int .i64 5)) v) := Lib.hid (by rw [ck1 (by unfold c1B; rw [hm1]; rfl)]; exact ⟨rfl, HB.out⟩)
    go_wp2_with fail
    go_ret
    exact HT.out
  | false =>
    have m0 : 0 ≤ D.max := by have := of_decide_eq_false hm1; omega
    cases hm2 : decide (D.max > 16777216) with
    | true =>
      have HT : Hid (SaysI (checkF D) w (.returned (.int .i64 5)) v) := Lib.hid (by rw [ck1 (by unfold c1B; rw [hm1, hm2]; rfl)]; exact ⟨rfl, HB.out⟩)
      have m1 : 16777216 < D.max := of_decide_eq_true hm2
      clear hm2
      go_wp2_with fail
      go_ret
      exact HT.out
    | false =>
      have H1 : Hid (c1B D = false) := Lib.hid (by unfold c1B; rw [hm1, hm2]; rfl)
      have m1 : D.max ≤ 16777216 := by have := of_decide_eq_false hm2; omega
      go_upto_region 3 with fail
      clear hm1 hm2

      have KC : Hid (∀ u, Below v.heap.size v u → u.cell? ⟨w.heap.size, 0, none⟩ = some (.int .i64 D.max) ∧ u.cell? ⟨w.heap.size, 1, none⟩ = some (.slice F.ai D.ins.length F.ci) ∧ u.cell? ⟨w.heap.size, 2, none⟩ = some (.slice F.al D.lats.length F.cl) ∧ u.cell? ⟨w.heap.size, 3, none⟩ = some (.slice F.ao D.outs.length F.co) ∧ u.cell? ⟨w.heap.size, 4, none⟩ = some (.slice F.ab D.bads.length F.cb) ∧ u.cell? ⟨w.heap.size, 5, none⟩ = some (.slice F.ac D.cons.length F.cc) ∧ u.cell? ⟨w.heap.size, 6, none⟩ = some (.slice F.ag D.gates.length F.cg) ∧ u.cell? ⟨w.heap.size, 7, none⟩ = some (.slice F.as_ D.syms.length F.cs) ∧ u.cell? ⟨w.heap.size, 8, none⟩ = some (.string D.com)) := Lib.hid (fun u hu => ⟨((HX.out.on hu).cell 0).1, ((HX.out.on hu).cell 1).1, ((HX.out.on hu).cell 2).1, ((HX.out.on hu).cell 3).1, ((HX.out.on hu).cell 4).1, ((HX.out.on hu).cell 5).1, ((HX.out.on hu).cell 6).1, ((HX.out.on hu).cell 7).1, ((HX.out.on hu).cell 8).1⟩)
      have HD1 : Hid (Below v.heap.size v (v.drewN 1)) := Lib.hid (below_drewN (Below.refl _ _) 1)
      have hd1 := HD1.out
      obtain ⟨k0, k1, k2, k3, k4, k5, k6, k7, k8⟩ := KC.out _ hd1
      go_region_held3 (fun w' => w'.cell? ⟨w.heap.size, 0, none⟩ = some (.int .i64 D.max) ∧ w'.cell? ⟨w.heap.size, 1, none⟩ = some (.slice F.ai D.ins.length F.ci) ∧ w'.cell? ⟨w.heap.size, 2, none⟩ = some (.slice F.al D.lats.length F.cl) ∧ w'.cell? ⟨w.heap.size, 3, none⟩ = some (.slice F.ao D.outs.length F.co) ∧ w'.cell? ⟨w.heap.size, 4, none⟩ = some (.slice F.ab D.bads.length F.cb) ∧ w'.cell? ⟨w.heap.size, 5, none⟩ = some (.slice F.ac D.cons.length F.cc) ∧ w'.cell? ⟨w.heap.size, 6, none⟩ = some (.slice F.ag D.gates.length F.cg) ∧ w'.cell? ⟨w.heap.size, 7, none⟩ = some (.slice F.as_ D.syms.length F.cs) ∧ w'.cell? ⟨w.heap.size, 8, none⟩ = some (.string D.com))
        (first | (exact KC.out _ hb3) | (exact KC.out _ hb2) | (exact KC.out _ hd1) | go_keep)
        (first | (go_at_call 22; refine (refOwned_any D F P _ (HI.out.on hd1) HL.out).mono ?_; rintro e w2 ⟨uo, rfl, ro, bo⟩; have hb2 := hd1.trans (bo.mono hd1.size)) | (go_at_call 23; refine (refUsed_any D F P _ (HI.out.on hb2) HL.out).mono ?_; rintro e w3 ⟨uu, rfl, ru, bu⟩; have hb3 := hb2.trans (bu.mono hb2.size)))
      have HO := Lib.hid ((ints_of_owned ro).on bu)
      have HU := Lib.hid (ints_of_owned ru)
      have HBV := Lib.hid hb3
      have HNO := Lib.hid (owned_len' D HL.out)
      have HNU := Lib.hid (used_len' D HL.out)
      clear k0 k1 k2 k3 k4 k5 k6 k7 k8 hb2 hb3 ro ru bo bu hd1 x0 HD1
      obtain ⟨ao, co, rfl, lo1, lo2⟩ := ints_form HO.out
      obtain ⟨au, cu, rfl, lu1, lu2⟩ := ints_form HU.out
      unfold maxLen at lo2 lu2
      have lo3 := HNO.out
      have lu3 := HNU.out
      go_wp2_with fail
      go_loopw [5] (fun i wr => ∃ k : Nat, k ≤ (ownedL D).length ∧ i = .int .i64 k ∧ Hid (someTo (fun i => badO D.max ((ownedL D).getD i 0)) k = false) ∧ Hid (Below w3.heap.size w3 wr)) (fun i _ => (ownedL D).length - (intOf i).toNat)
      case atStart => exact ⟨0, Nat.zero_le _, by go_num, Lib.hid rfl, Lib.hid (Below.refl _ _)⟩
      case round =>
        obtain ⟨k, hk, rfl, HNK, HBW⟩ := hrel
        obtain ⟨wo, rfl⟩ : ∃ wo : World, wo = wr := ⟨_, rfl⟩
        have HBVo : Hid (Below v.heap.size v wo) := Lib.hid (HBV.out.trans (HBW.out.mono HBV.out.size))
        have hXo : w.heap.size < wo.heap.size := Nat.lt_of_lt_of_le hX HBVo.out.size
        have d2 : 0 ≤ (k : Int) := by omega
        by_cases hlt : k < (ownedL D).length
        · obtain ⟨b, off, rfl, hbl, e1⟩ := ints_cell (HO.out.on HBW.out) hlt
          obtain ⟨x, hx⟩ : ∃ x, x = (ownedL D).getD k 0 := ⟨_, rfl⟩
          have h64 := owned_at HF.out k
          rw [← hx] at e1 h64
          have HXX := Lib.hid hx
          have x0 := ((HX.out.on HBVo.out).cell 0).1
          have y0 : wo.cell? ⟨w.heap.size, 0, none⟩ = some (.int .i64 D.max) := x0
          have d1 : decide ((k : Int) < ((ownedL D).length : Int)) = true := by simp; omega
          have d3 : (k : Int) < ((ownedL D).length : Int) := by omega
          have HBAD : Hid (badO D.max x = true → checkF D = 5) := Lib.hid (fun h => ck2 H1.out (some_at (k := k) (by show badO D.max _ = true; rw [← HXX.out]; exact h) hlt))
          have HOK : Hid (badO D.max x = false → (fun i => badO D.max ((ownedL D).getD i 0)) k = false) := Lib.hid (fun h => by show badO D.max _ = false; rw [← HXX.out]; exact h)
          have HWZ : Hid (IntKind.i64.wrap (2 * D.max) = 2 * D.max) := Lib.hid (IntWalk.i64_in _ (by omega))
          obtain ⟨h64a, h64b⟩ := h64
          clear hx x0
          cases t1 : decide (x < 2) with
          | true =>
            have HB5 := Lib.hid (HBAD.out (by unfold badO; rw [t1]; rfl))
            have HT : Hid (∀ q, SaysI (checkF D) w (.returned (.int .i64 5)) (wo.drewN q)) := Lib.hid (fun q => by rw [HB5.out]; exact ⟨rfl, below_drewN (HB.out.trans (HBVo.out.mono HB.out.size)) q⟩)
            go_wp2_with fail
            go_quiet (fail)
            go_wp2_with fail
            go_ret
            exact HT.out _
          | false =>
            have x2 : 2 ≤ x := by have := of_decide_eq_false t1; omega
            have x00 : 0 ≤ x := by omega
            have hmod : x.tmod 2 = x % 2 := Int.tmod_eq_emod_of_nonneg x00
            cases t2 : (x % 2 == 1) with
            | true =>
              have HB5 := Lib.hid (HBAD.out (by unfold badO; rw [t1, show decide (x % 2 = 1) = true by simpa using t2]; rfl))
              have HT : Hid (∀ q, SaysI (checkF D) w (.returned (.int .i64 5)) (wo.drewN q)) := Lib.hid (fun q => by rw [HB5.out]; exact ⟨rfl, below_drewN (HB.out.trans (HBVo.out.mono HB.out.size)) q⟩)
              go_wp2_with fail
              go_quiet (fail)
              go_wp2_with fail
              go_ret
              exact HT.out _
            | false =>
              cases t3 : decide (2 * D.max < x) with
              | true =>
                have HB5 := Lib.hid (HBAD.out (by unfold badO; rw [t1, show decide (x > 2 * D.max) = true from t3]; simp))
                have hwz := HWZ.out
                have HT : Hid (∀ q, SaysI (checkF D) w (.returned (.int .i64 5)) (wo.drewN q)) := Lib.hid (fun q => by rw [HB5.out]; exact ⟨rfl, below_drewN (HB.out.trans (HBVo.out.mono HB.out.size)) q⟩)
                go_wp2_with fail
                go_quiet (fail)
                go_wp2_with fail
                go_ret
                exact HT.out _
              | false =>
                have HOK2 := Lib.hid (HOK.out (by unfold badO; rw [t1, show decide (x % 2 = 1) = false by simpa using t2, show decide (x > 2 * D.max) = false from t3]; rfl))
                have hwz := HWZ.out
                have HN2 : Hid (someTo (fun i => badO D.max ((ownedL D).getD i 0)) (k + 1) = false) := Lib.hid (some_no HNK.out HOK2.out)
                have HBW2 := fun q => below_drewN HBW.out q
                have HBW3 := Lib.hid HBW2
                clear HBW2
                go_wp2_with fail
                go_quiet (fail)
                go_wp2_with fail
                go_roundw
                case rel => exact ⟨k + 1, by omega, by go_num, HN2, Lib.hid (HBW3.out _)⟩
                case measure => simp [intOf]; omega
        · have hkn : k = (ownedL D).length := by omega
          subst hkn
          have H2 : Hid (c2B D = false) := HNK
          have HBWp := HBW
          have d1 : decide (((ownedL D).length : Int) < ((ownedL D).length : Int)) = false := by simp
          clear hlt hk HNK HBW
          go_wp2_with fail
          clear d1 d2 hXo
          go_loopw [6] (fun i wr => ∃ k : Nat, k ≤ (usedL D).length ∧ i = .int .i64 k ∧ Hid (someTo (fun i => badU D.max ((usedL D).getD i 0)) k = false) ∧ Hid (Below w3.heap.size w3 wr)) (fun i _ => (usedL D).length - (intOf i).toNat)
          case atStart => exact ⟨0, Nat.zero_le _, by go_num, Lib.hid rfl, HBWp⟩
          case round =>
            obtain ⟨k, hk, rfl, HNK, HBW⟩ := hrel
            obtain ⟨wo, rfl⟩ : ∃ wo : World, wo = wr := ⟨_, rfl⟩
            have HBVo : Hid (Below v.heap.size v wo) := Lib.hid (HBV.out.trans (HBW.out.mono HBV.out.size))
            have hXo : w.heap.size < wo.heap.size := Nat.lt_of_lt_of_le hX HBVo.out.size
            have d2 : 0 ≤ (k : Int) := by omega
            by_cases hlt : k < (usedL D).length
            · obtain ⟨b, off, rfl, hbl, e1⟩ := ints_cell (HU.out.on HBW.out) hlt
              obtain ⟨x, hx⟩ : ∃ x, x = (usedL D).getD k 0 := ⟨_, rfl⟩
              have h64 := used_at HF.out k
              rw [← hx] at e1 h64
              have HXX := Lib.hid hx
              have x0 := ((HX.out.on HBVo.out).cell 0).1
              have y0 : wo.cell? ⟨w.heap.size, 0, none⟩ = some (.int .i64 D.max) := x0
              have d1 : decide ((k : Int) < ((usedL D).length : Int)) = true := by simp; omega
              have d3 : (k : Int) < ((usedL D).length : Int) := by omega
              have HBAD : Hid (badU D.max x = true → checkF D = 5) := Lib.hid (fun h => ck3 H1.out H2.out (some_at (k := k) (by show badU D.max _ = true; rw [← HXX.out]; exact h) hlt))
              have HOK : Hid (badU D.max x = false → (fun i => badU D.max ((usedL D).getD i 0)) k = false) := Lib.hid (fun h => by show badU D.max _ = false; rw [← HXX.out]; exact h)
              have HWZ : Hid (IntKind.i64.wrap (2 * D.max) = 2 * D.max) := Lib.hid (IntWalk.i64_in _ (by omega))
              have HWY : Hid (IntKind.i64.wrap (2 * D.max + 1) = 2 * D.max + 1) := Lib.hid (IntWalk.i64_in _ (by omega))
              obtain ⟨h64a, h64b⟩ := h64
              clear hx x0
              cases t1 : decide (x < 0) with
              | true =>
                have HB5 := Lib.hid (HBAD.out (by unfold badU; rw [t1]; rfl))
                have HT : Hid (∀ q, SaysI (checkF D) w (.returned (.int .i64 5)) (wo.drewN q)) := Lib.hid (fun q => by rw [HB5.out]; exact ⟨rfl, below_drewN (HB.out.trans (HBVo.out.mono HB.out.size)) q⟩)
                go_wp2_with fail
                go_quiet (fail)
                go_wp2_with fail
                go_ret
                exact HT.out _
              | false =>
                have x00 : 0 ≤ x := by have := of_decide_eq_false t1; omega
                cases t3 : decide (2 * D.max + 1 < x) with
                | true =>
                  have HB5 := Lib.hid (HBAD.out (by unfold badU; rw [show decide (x > 2 * D.max + 1) = true from t3]; simp))
                  have hwz := HWZ.out
                  have hwy := HWY.out
                  have HT : Hid (∀ q, SaysI (checkF D) w (.returned (.int .i64 5)) (wo.drewN q)) := Lib.hid (fun q => by rw [HB5.out]; exact ⟨rfl, below_drewN (HB.out.trans (HBVo.out.mono HB.out.size)) q⟩)
                  go_wp2_with fail
                  go_quiet (fail)
                  go_wp2_with fail
                  go_ret
                  exact HT.out _
                | false =>
                  have HOK2 := Lib.hid (HOK.out (by unfold badU; rw [t1, show decide (x > 2 * D.max + 1) = false from t3]; rfl))
                  have hwz := HWZ.out
                  have hwy := HWY.out
                  have HN2 : Hid (someTo (fun i => badU D.max ((usedL D).getD i 0)) (k + 1) = false) := Lib.hid (some_no HNK.out HOK2.out)
                  have HBW2 := fun q => below_drewN HBW.out q
                  have HBW3 := Lib.hid HBW2
                  clear HBW2
                  go_wp2_with fail
                  go_quiet (fail)
                  go_wp2_with fail
                  go_roundw
                  case rel => exact ⟨k + 1, by omega, by go_num, HN2, Lib.hid (HBW3.out _)⟩
                  case measure => simp [intOf]; omega
            · have hkn : k = (usedL D).length := by omega
              subst hkn
              have H3 : Hid (c3B D = false) := HNK
              have HBWp := HBW
              have d1 : decide (((usedL D).length : Int) < ((usedL D).length : Int)) = false := by simp
              clear hlt hk HNK HBW
              go_wp2_with fail
              clear d1 d2 hXo
              have ln1 := HL.out.l
              go_loopw [7] (fun i wr => ∃ k : Nat, k ≤ D.lats.length ∧ i = .int .i64 k ∧ Hid (someTo (fun i => badR (D.lats.getD i (0, 0, 0))) k = false) ∧ Hid (Below w3.heap.size w3 wr)) (fun i _ => D.lats.length - (intOf i).toNat)
              case atStart => exact ⟨0, Nat.zero_le _, by go_num, Lib.hid rfl, HBWp⟩
              case round =>
                obtain ⟨k, hk, rfl, HNK, HBW⟩ := hrel
                obtain ⟨wo, rfl⟩ : ∃ wo : World, wo = wr := ⟨_, rfl⟩
                have HBVo : Hid (Below v.heap.size v wo) := Lib.hid (HBV.out.trans (HBW.out.mono HBV.out.size))
                have hXo : w.heap.size < wo.heap.size := Nat.lt_of_lt_of_le hX HBVo.out.size
                have d2 : 0 ≤ (k : Int) := by omega
                have x2 : wo.cell? ⟨w.heap.size, 2, none⟩ = some (.slice F.al D.lats.length F.cl) := ((HX.out.on HBVo.out).cell 2).1
                by_cases hlt : k < D.lats.length
                · obtain ⟨b, off, hba, hbl, e0, -, e2⟩ := Rw.at3 (HI.out.on HBVo.out).l hlt
                  rw [hba] at x2
                  have HBR : Hid (badR (D.lats.getD k (0, 0, 0)) = true → checkF D = 5) := Lib.hid (fun h => ck4 H1.out H2.out H3.out (some_at (k := k) h hlt))
                  have HBK : Hid (badR (D.lats.getD k (0, 0, 0)) = (!decide ((D.lats.getD k (0, 0, 0)).2.2 = 0) && (!decide ((D.lats.getD k (0, 0, 0)).2.2 = 1) && !decide ((D.lats.getD k (0, 0, 0)).2.2 = (D.lats.getD k (0, 0, 0)).1)))) := Lib.hid rfl
                  obtain ⟨r, hr⟩ : ∃ r, r = (D.lats.getD k (0, 0, 0)).2.2 := ⟨_, rfl⟩
                  obtain ⟨g, hg⟩ : ∃ g, g = (D.lats.getD k (0, 0, 0)).1 := ⟨_, rfl⟩
                  rw [← hr] at e2 HBK
                  rw [← hg] at e0 HBK
                  clear hba hr hg
                  have d1 : decide ((k : Int) < (D.lats.length : Int)) = true := by simp; omega
                  have d3 : (k : Int) < (D.lats.length : Int) := by omega
                  cases t1 : (r == 0) with
                  | true =>
                    have t1n : (r != 0) = false := by simpa using t1
                    have HOK2 : Hid ((fun i => badR (D.lats.getD i (0, 0, 0))) k = false) := Lib.hid (by show badR _ = false; rw [HBK.out, show decide (r = 0) = true by simpa using t1]; rfl)
                    have HN2 : Hid (someTo (fun i => badR (D.lats.getD i (0, 0, 0))) (k + 1) = false) := Lib.hid (some_no HNK.out HOK2.out)
                    go_wp2_with fail
                    go_roundw
                    case rel => exact ⟨k + 1, by omega, by go_num, HN2, HBW⟩
                    case measure => simp [intOf]; omega
                  | false =>
                    have t1n : (r != 0) = true := by simpa using t1
                    cases t2 : (r == 1) with
                    | true =>
                      have t2n : (r != 1) = false := by simpa using t2
                      have HOK2 : Hid ((fun i => badR (D.lats.getD i (0, 0, 0))) k = false) := Lib.hid (by show badR _ = false; rw [HBK.out, show decide (r = 1) = true by simpa using t2]; simp)
                      have HN2 : Hid (someTo (fun i => badR (D.lats.getD i (0, 0, 0))) (k + 1) = false) := Lib.hid (some_no HNK.out HOK2.out)
                      go_wp2_with fail
                      go_roundw
                      case rel => exact ⟨k + 1, by omega, by go_num, HN2, HBW⟩
                      case measure => simp [intOf]; omega
                    | false =>
                      have t2n : (r != 1) = true := by simpa using t2
                      cases t3 : (r == g) with
                      | true =>
                        have t3n : (r != g) = false := by simpa using t3
                        have HOK2 : Hid ((fun i => badR (D.lats.getD i (0, 0, 0))) k = false) := Lib.hid (by show badR _ = false; rw [HBK.out, show decide (r = g) = true by simpa using t3]; simp)
                        have HN2 : Hid (someTo (fun i => badR (D.lats.getD i (0, 0, 0))) (k + 1) = false) := Lib.hid (some_no HNK.out HOK2.out)
                        go_wp2_with fail
                        go_roundw
                        case rel => exact ⟨k + 1, by omega, by go_num, HN2, HBW⟩
                        case measure => simp [intOf]; omega
                      | false =>
                        have t3n : (r != g) = true := by simpa using t3
                        have HB5 := Lib.hid (HBR.out (by rw [HBK.out, show decide (r = 0) = false by simpa using t1, show decide (r = 1) = false by simpa using t2, show decide (r = g) = false by simpa using t3]; rfl))
                        have HT : Hid (SaysI (checkF D) w (.returned (.int .i64 5)) wo) := Lib.hid (by rw [HB5.out]; exact ⟨rfl, HB.out.trans (HBVo.out.mono HB.out.size)⟩)
                        go_wp2_with fail
                        go_ret
                        exact HT.out
                · have hkn : k = D.lats.length := by omega
                  subst hkn
                  have H4 : Hid (c4B D = false) := HNK
                  have HBWp := HBW
                  have d1 : decide ((D.lats.length : Int) < (D.lats.length : Int)) = false := by simp
                  clear hlt hk HNK HBW
                  go_wp2_with fail
                  clear d1 d2 hXo x2 ln1
                  go_loopw [9] (fun i wr => ∃ k : Nat, k ≤ (ownedL D).length ∧ i = .int .i64 k ∧ Hid (someTo (dupI (ownedL D)) k = false) ∧ Hid (Below w3.heap.size w3 wr)) (fun i _ => (ownedL D).length - (intOf i).toNat)
                  case atStart => exact ⟨0, Nat.zero_le _, by go_num, Lib.hid rfl, HBWp⟩
                  case round =>
                    obtain ⟨k, hk, rfl, HNK, HBW⟩ := hrel
                    obtain ⟨wo, rfl⟩ : ∃ wo : World, wo = wr := ⟨_, rfl⟩
                    have HBVo : Hid (Below v.heap.size v wo) := Lib.hid (HBV.out.trans (HBW.out.mono HBV.out.size))
                    have hXo : w.heap.size < wo.heap.size := Nat.lt_of_lt_of_le hX HBVo.out.size
                    have d2 : 0 ≤ (k : Int) := by omega
                    by_cases hlt : k < (ownedL D).length
                    · obtain ⟨b, off, rfl, hbl, e1⟩ := ints_cell (HO.out.on HBW.out) hlt
                      have hkc : k ≤ co := by omega
                      have HTK := Lib.hid (Go.Proofs.Ytbpjflghkkkenaa.ints.ints_take (HO.out.on HBW.out) (k := k) (by omega))
                      obtain ⟨dd, hdd⟩ : ∃ dd, dd = dupI (ownedL D) k := ⟨_, rfl⟩
                      have HDD := Lib.hid hdd
                      obtain ⟨x, hx⟩ : ∃ x, x = (ownedL D).getD k 0 := ⟨_, rfl⟩
                      have hdx : dd = hasI ((ownedL D).take k) x := by rw [hdd, hx]; rfl
                      have HQ : Hid (∀ u, Below wo.heap.size wo u → Calls Try.prog 24 #[.slice (some ⟨b, off, none⟩) k co, .int .i64 x] u fun e w' => e = .returned (.bool dd) ∧ w' = u) := Lib.hid (fun u hu => by
                        have h := refHas_any _ _ x u (HTK.out.on hu) (by rw [List.length_take]; omega)
                        rw [← hdx] at h
                        exact h.mono fun _ _ ⟨h1, h2⟩ => ⟨h1, h2.symm⟩)
                      rw [← hx] at e1
                      clear hdd hx hdx
                      have d1 : decide ((k : Int) < ((ownedL D).length : Int)) = true := by simp; omega
                      have d3 : (k : Int) < ((ownedL D).length : Int) := by omega
                      have d4 : (k : Int) ≤ (co : Int) := by omega
                      cases dd with
                      | true =>
                        have HB5 : Hid (checkF D = 7) := Lib.hid (ck5 H1.out H2.out H3.out H4.out (some_at (k := k) HDD.out.symm hlt))
                        have HT : Hid (∀ q, SaysI (checkF D) w (.returned (.int .i64 7)) (wo.drewN q)) := Lib.hid (fun q => by rw [HB5.out]; exact ⟨rfl, below_drewN (HB.out.trans (HBVo.out.mono HB.out.size)) q⟩)
                        go_wp2_with fail
                        go_quiet ((go_at_call 24; exact Calls.quiet_of_same (HQ.out _ (below_drewN (Below.refl _ _) _))))
                        go_wp2_with fail
                        go_ret
                        exact HT.out _
                      | false =>
                        have HN2 : Hid (someTo (dupI (ownedL D)) (k + 1) = false) := Lib.hid (some_no HNK.out HDD.out.symm)
                        have HBW2 := fun q => below_drewN HBW.out q
                        have HBW3 := Lib.hid HBW2
                        clear HBW2
                        go_wp2_with fail
                        go_quiet ((go_at_call 24; exact Calls.quiet_of_same (HQ.out _ (below_drewN (Below.refl _ _) _))))
                        go_wp2_with fail
                        go_roundw
                        case rel => exact ⟨k + 1, by omega, by go_num, HN2, Lib.hid (HBW3.out _)⟩
                        case measure => simp [intOf]; omega
                    · have hkn : k = (ownedL D).length := by omega
                      subst hkn
                      have H5 : Hid (c5B D = false) := HNK
                      have HBWp := HBW
                      have d1 : decide (((ownedL D).length : Int) < ((ownedL D).length : Int)) = false := by simp
                      clear hlt hk HNK HBW
                      go_wp2_with fail
                      clear d1 d2 hXo
                      go_loopw [10] (fun i wr => ∃ k : Nat, k ≤ (usedL D).length ∧ i = .int .i64 k ∧ Hid (someTo (fun i => misU (ownedL D) ((usedL D).getD i 0)) k = false) ∧ Hid (Below w3.heap.size w3 wr)) (fun i _ => (usedL D).length - (intOf i).toNat)
                      case atStart => exact ⟨0, Nat.zero_le _, by go_num, Lib.hid rfl, HBWp⟩
                      case round =>
                        obtain ⟨k, hk, rfl, HNK, HBW⟩ := hrel
                        obtain ⟨wo, rfl⟩ : ∃ wo : World, wo = wr := ⟨_, rfl⟩
                        have HBVo : Hid (Below v.heap.size v wo) := Lib.hid (HBV.out.trans (HBW.out.mono HBV.out.size))
                        have hXo : w.heap.size < wo.heap.size := Nat.lt_of_lt_of_le hX HBVo.out.size
                        have d2 : 0 ≤ (k : Int) := by omega
                        by_cases hlt : k < (usedL D).length
                        · obtain ⟨b, off, rfl, hbl, e1⟩ := ints_cell (HU.out.on HBW.out) hlt
                          obtain ⟨x, hx⟩ : ∃ x, x = (usedL D).getD k 0 := ⟨_, rfl⟩
                          have h64 := used_at HF.out k
                          rw [← hx] at e1 h64
                          have HXX := Lib.hid hx
                          have HBAD : Hid (misU (ownedL D) x = true → checkF D = 9) := Lib.hid (fun h => ck6 H1.out H2.out H3.out H4.out H5.out (some_at (k := k) (by show misU (ownedL D) _ = true; rw [← HXX.out]; exact h) hlt))
                          have HOK : Hid (misU (ownedL D) x = false → (fun i => misU (ownedL D) ((usedL D).getD i 0)) k = false) := Lib.hid (fun h => by show misU (ownedL D) _ = false; rw [← HXX.out]; exact h)
                          have HOo := Lib.hid (HO.out.on HBW.out)
                          have d1 : decide ((k : Int) < ((usedL D).length : Int)) = true := by simp; omega
                          have d3 : (k : Int) < ((usedL D).length : Int) := by omega
                          obtain ⟨h64a, h64b⟩ := h64
                          clear hx
                          cases t1 : decide (1 < x) with
                          | false =>
                            have HOK2 := Lib.hid (HOK.out (by unfold misU; rw [show decide (x > 1) = false from t1]; rfl))
                            have HN2 : Hid (someTo (fun i => misU (ownedL D) ((usedL D).getD i 0)) (k + 1) = false) := Lib.hid (some_no HNK.out HOK2.out)
                            have HBW2 := fun q => below_drewN HBW.out q
                            have HBW3 := Lib.hid HBW2
                            clear HBW2
                            go_wp2_with fail
                            go_quiet (fail)
                            go_wp2_with fail
                            go_roundw
                            case rel => exact ⟨k + 1, by omega, by go_num, HN2, Lib.hid (HBW3.out _)⟩
                            case measure => simp [intOf]; omega
                          | true =>
                            have x00 : 0 ≤ x := by have := of_decide_eq_true t1; omega
                            have hmod : x.tmod 2 = x % 2 := Int.tmod_eq_emod_of_nonneg x00
                            have hws : IntKind.i64.wrap (x - x % 2) = x - x % 2 := IntWalk.i64_in _ (by omega)
                            have HWS := Lib.hid hws
                            clear hws
                            obtain ⟨y, hy⟩ : ∃ y, y = x - x % 2 := ⟨_, rfl⟩
                            obtain ⟨dd, hdd⟩ : ∃ dd, dd = hasI (ownedL D) y := ⟨_, rfl⟩
                            have HM : Hid (misU (ownedL D) x = !dd) := Lib.hid (by unfold misU; rw [show decide (x > 1) = true from t1, ← hy, ← hdd]; rfl)
                            have HQ : Hid (∀ u, Below wo.heap.size wo u → Calls Try.prog 24 #[.slice ao (ownedL D).length co, .int .i64 (x - x % 2)] u fun e w' => e = .returned (.bool dd) ∧ w' = u) := Lib.hid (fun u hu => by
                              have h := refHas_any _ _ y u (HOo.out.on hu) (by omega)
                              rw [← hdd, hy] at h
                              exact h.mono fun _ _ ⟨h1, h2⟩ => ⟨h1, h2.symm⟩)
                            clear hy hdd
                            cases dd with
                            | true =>
                              have HOK2 := Lib.hid (HOK.out (by rw [HM.out]; rfl))
                              have hws := HWS.out
                              have HN2 : Hid (someTo (fun i => misU (ownedL D) ((usedL D).getD i 0)) (k + 1) = false) := Lib.hid (some_no HNK.out HOK2.out)
                              have HBW2 := fun q => below_drewN HBW.out q
                              have HBW3 := Lib.hid HBW2
                              clear HBW2
                              go_wp2_with fail
                              go_quiet ((go_at_call 24; exact Calls.quiet_of_same (HQ.out _ (below_drewN (Below.refl _ _) _))))
                              go_wp2_with fail
                              go_roundw
                              case rel => exact ⟨k + 1, by omega, by go_num, HN2, Lib.hid (HBW3.out _)⟩
                              case measure => simp [intOf]; omega
                            | false =>
                              have HB5 := Lib.hid (HBAD.out (by rw [HM.out]; rfl))
                              have hws := HWS.out
                              have HT : Hid (∀ q, SaysI (checkF D) w (.returned (.int .i64 9)) (wo.drewN q)) := Lib.hid (fun q => by rw [HB5.out]; exact ⟨rfl, below_drewN (HB.out.trans (HBVo.out.mono HB.out.size)) q⟩)
                              go_wp2_with fail
                              go_quiet ((go_at_call 24; exact Calls.quiet_of_same (HQ.out _ (below_drewN (Below.refl _ _) _))))
                              go_wp2_with fail
                              go_ret
                              exact HT.out _
                        · have hkn : k = (usedL D).length := by omega
                          subst hkn
                          have H6 : Hid (c6B D = false) := HNK
                          have HBWp := HBW
                          have d1 : decide (((usedL D).length : Int) < ((usedL D).length : Int)) = false := by simp
                          clear hlt hk HNK HBW
                          have HLT := Lib.hid (gates_lit H1.out H2.out H3.out)
                          have HKO : Hid (∀ u, Below wo.heap.size wo u → u.cell? ⟨w.heap.size, 0, none⟩ = some (.int .i64 D.max) ∧ u.cell? ⟨w.heap.size, 1, none⟩ = some (.slice F.ai D.ins.length F.ci) ∧ u.cell? ⟨w.heap.size, 2, none⟩ = some (.slice F.al D.lats.length F.cl) ∧ u.cell? ⟨w.heap.size, 3, none⟩ = some (.slice F.ao D.outs.length F.co) ∧ u.cell? ⟨w.heap.size, 4, none⟩ = some (.slice F.ab D.bads.length F.cb) ∧ u.cell? ⟨w.heap.size, 5, none⟩ = some (.slice F.ac D.cons.length F.cc) ∧ u.cell? ⟨w.heap.size, 6, none⟩ = some (.slice F.ag D.gates.length F.cg) ∧ u.cell? ⟨w.heap.size, 7, none⟩ = some (.slice F.as_ D.syms.length F.cs) ∧ u.cell? ⟨w.heap.size, 8, none⟩ = some (.string D.com)) := Lib.hid (fun u hu => KC.out u (HBVo.out.trans (hu.mono HBVo.out.size)))
                          have HIo := Lib.hid (HI.out.on HBVo.out)
                          have HBo := Lib.hid (HB.out.trans (HBVo.out.mono HB.out.size))
                          go_upto_region 30 with fail
                          clear d1 d2 hXo
                          have hd1 : Below wo.heap.size wo (wo.drewN 1) := below_drewN (Below.refl _ _) 1
                          have gl1 := HL.out.g
                          obtain ⟨k0, k1, k2, k3, k4, k5, k6, k7, k8⟩ := HKO.out _ hd1
                          cases t7 : decide ((orderL D.gates).length < D.gates.length) with
                          | true =>
                            have HZ : Hid (checkF D = 8) := Lib.hid (by rw [ck7 H1.out H2.out H3.out H4.out H5.out H6.out]; unfold c7B; rw [t7]; rfl)
                            have t7i : decide (((orderL D.gates).length : Int) < (D.gates.length : Int)) = true := by simpa using t7
                            go_region_held3 (fun w' => w'.cell? ⟨w.heap.size, 0, none⟩ = some (.int .i64 D.max) ∧ w'.cell? ⟨w.heap.size, 1, none⟩ = some (.slice F.ai D.ins.length F.ci) ∧ w'.cell? ⟨w.heap.size, 2, none⟩ = some (.slice F.al D.lats.length F.cl) ∧ w'.cell? ⟨w.heap.size, 3, none⟩ = some (.slice F.ao D.outs.length F.co) ∧ w'.cell? ⟨w.heap.size, 4, none⟩ = some (.slice F.ab D.bads.length F.cb) ∧ w'.cell? ⟨w.heap.size, 5, none⟩ = some (.slice F.ac D.cons.length F.cc) ∧ w'.cell? ⟨w.heap.size, 6, none⟩ = some (.slice F.ag D.gates.length F.cg) ∧ w'.cell? ⟨w.heap.size, 7, none⟩ = some (.slice F.as_ D.syms.length F.cs) ∧ w'.cell? ⟨w.heap.size, 8, none⟩ = some (.string D.com)) (first | (exact HKO.out _ hb5) | (exact HKO.out _ hd1) | go_keep) (first | (go_at_call 16; refine (refOrder_any D F P _ (HIo.out.on hd1) gl1 HLT.out).mono ?_; rintro e w5 ⟨uq, rfl, rq, bq⟩; obtain ⟨pq, cq, rfl⟩ := owns_form rq; have hb5 := hd1.trans (bq.mono hd1.size)))
                            have HT : Hid (SaysI (checkF D) w (.returned (.int .i64 8)) w5) := Lib.hid (by rw [HZ.out]; exact ⟨rfl, HBo.out.trans (hb5.mono HBo.out.size)⟩)
                            clear k0 k1 k2 k3 k4 k5 k6 k7 k8 rq bq hb5
                            go_wp2_with fail
                            go_ret
                            exact HT.out
                          | false =>
                            have HZ : Hid (checkF D = 0) := Lib.hid (by rw [ck7 H1.out H2.out H3.out H4.out H5.out H6.out]; unfold c7B; rw [t7]; rfl)
                            have t7i : decide (((orderL D.gates).length : Int) < (D.gates.length : Int)) = false := by simpa using t7
                            go_region_held3 (fun w' => w'.cell? ⟨w.heap.size, 0, none⟩ = some (.int .i64 D.max) ∧ w'.cell? ⟨w.heap.size, 1, none⟩ = some (.slice F.ai D.ins.length F.ci) ∧ w'.cell? ⟨w.heap.size, 2, none⟩ = some (.slice F.al D.lats.length F.cl) ∧ w'.cell? ⟨w.heap.size, 3, none⟩ = some (.slice F.ao D.outs.length F.co) ∧ w'.cell? ⟨w.heap.size, 4, none⟩ = some (.slice F.ab D.bads.length F.cb) ∧ w'.cell? ⟨w.heap.size, 5, none⟩ = some (.slice F.ac D.cons.length F.cc) ∧ w'.cell? ⟨w.heap.size, 6, none⟩ = some (.slice F.ag D.gates.length F.cg) ∧ w'.cell? ⟨w.heap.size, 7, none⟩ = some (.slice F.as_ D.syms.length F.cs) ∧ w'.cell? ⟨w.heap.size, 8, none⟩ = some (.string D.com)) (first | (exact HKO.out _ hb5) | (exact HKO.out _ hd1) | go_keep) (first | (go_at_call 16; refine (refOrder_any D F P _ (HIo.out.on hd1) gl1 HLT.out).mono ?_; rintro e w5 ⟨uq, rfl, rq, bq⟩; obtain ⟨pq, cq, rfl⟩ := owns_form rq; have hb5 := hd1.trans (bq.mono hd1.size)))
                            have HT : Hid (SaysI (checkF D) w (.returned (.int .i64 0)) w5) := Lib.hid (by rw [HZ.out]; exact ⟨rfl, HBo.out.trans (hb5.mono HBo.out.size)⟩)
                            clear k0 k1 k2 k3 k4 k5 k6 k7 k8 rq bq hb5
                            go_wp2_with fail
                            go_ret
                            exact HT.out

end Go.Proofs.Ytbpjflghkkkenaa.row
