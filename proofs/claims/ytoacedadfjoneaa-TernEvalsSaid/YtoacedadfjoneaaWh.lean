/- The walk of the project's drop: an input that is dropped, or not. -/
import Derived.Test.YtoacedadfjoneaaWg
namespace Go.Proofs.Ytoacedadfjoneaa.aig
open Go.RowKit
open Go.Proofs.Ytoacedadfjoneaa.mem Go.Proofs.Ytoacedadfjoneaa.agf Go.Proofs.Ytoacedadfjoneaa.fns
open Go.Proofs.Ytoacedadfjoneaa.ints (Ints ints_of_owned below_drewN)
open Go.Proofs.Ytoacedadfjoneaa.tri (tLit)

theorem moved_up {P Q : Nat → Prop} {w w' : World} (h : Moved P P w w') (hPQ : ∀ k, k < w.heap.size → P k → Q k) : Moved Q Q w w' :=
  ⟨⟨h.only.os, h.only.tape, h.only.output, h.only.size, fun k hk hn => h.only.block k hk (fun e => hn (hPQ k hk e))⟩, fun _ e => .inl e⟩
theorem DpB.join {d : DC} {B B2 : Nat} {w w' : World} {V V' : List Int} {M M' : List Bool} (h : DpB d B w V M) (h' : DpB d B2 w' V' M') (hm : Moved (DB d.tv d.tm B2) (DB d.tv d.tm B2) w w') (hB : B ≤ B2) : DpB d B w' V' M' ∧ Moved (DB d.tv d.tm B) (DB d.tv d.tm B) w w' := by
  have hm2 : Moved (DB d.tv d.tm B) (DB d.tv d.tm B) w w' := moved_up hm (fun k _ e => e.imp id (Or.imp id (fun e => Nat.le_trans hB e)))
  obtain ⟨l1, l2, l3, l4⟩ := h.low
  exact ⟨⟨h'.obj, h.net.move hm2, h.gates.move hm2, h.first.move hm2, h'.vals, h'.must, h.lay, h.len, l1, l2, l3, Nat.le_trans l4 hm.only.size⟩, hm2⟩
/-- values put back -/
def resL (F U R : List Int) : List Int := R.foldl (fun U r => U.set r.toNat (F.getD r.toNat 0)) U
theorem resL_len (F U R : List Int) : (resL F U R).length = U.length := by
  unfold resL
  induction R generalizing U with
  | nil => rfl
  | cons r R ih => rw [List.foldl_cons, ih, List.length_set]
theorem resL_step (F U : List Int) {R : List Int} {k : Nat} (h : k < R.length) : resL F U (R.take (k + 1)) = (resL F U (R.take k)).set (R.getD k 0).toNat (F.getD (R.getD k 0).toNat 0) := by
  unfold resL
  rw [List.take_succ_eq_append_getElem h, List.foldl_append]
  simp [List.getD, h]
theorem resL_at {F V : List Int} : ∀ (R U : List Int), U.length = V.length → (∀ r ∈ R, ∃ j : Nat, r = (j : Int) ∧ j < V.length ∧ V.getD j 0 = F.getD j 0) → (∀ j : Nat, U.getD j 0 ≠ V.getD j 0 → (j : Int) ∈ R) → ∀ j : Nat, (resL F U R).getD j 0 = V.getD j 0 := by
  intro R
  induction R with
  | nil => intro U _ _ h j; exact Classical.byContradiction fun e => by have := h j e; simp at this
  | cons r R ih =>
    intro U hl ho hf j
    obtain ⟨i, rfl, hi, hv⟩ := ho r (by simp)
    unfold resL
    rw [List.foldl_cons]
    refine ih _ (by rw [List.length_set]; exact hl) (fun r hr => ho r (by simp [hr])) (fun j hj => ?_) j
    by_cases e : i = j
    · subst e
      exact absurd (by simp only [Int.toNat_natCast]; rw [hv]; simp [List.getD, show i < U.length by omega]) hj
    · have hj2 : U.getD j 0 ≠ V.getD j 0 := by
        simp only [Int.toNat_natCast, List.getD, List.getElem?_set_ne e] at hj
        simpa [List.getD] using hj
      rcases List.mem_cons.1 (hf j hj2) with c | c
      · omega
      · exact c
theorem FreeOk.back {ns : List (Int × Int)} {F V T ls out U R : List Int} {M : List Bool} {k : Nat} {b : Bool} (h : FreeOk ns F V T ls out M k U R b) : resL F U R = V := by
  have key := resL_at (F := F) R U h.len h.org h.frd
  apply List.ext_getElem (by rw [resL_len, h.len])
  intro i h1 h2
  have := key i
  simpa [List.getD, h1, h2] using this
theorem sure_stays {N : Net} {ls out : List Int} {k : Nat} {M : List Bool} (hM : ∀ x ∈ ls, M.getD (litVar x).toNat false = true) (hsame : ∀ j, M.getD j false = true → (tSt (out.set k 2) N).1.getD j 0 = (tSt out N).1.getD j 0) (hs : tSure N out ls = true) :
    tSure N (out.set k 2) ls = true := by
  unfold tSure
  refine List.all_eq_true.2 fun x hx => ?_
  have h1 := sure_at hs hx
  have h2 : tLit (tSt (out.set k 2) N).1 x = tLit (tSt out N).1 x := lit_same (by rw [tSt_len, tSt_len]) (hsame _ (hM x hx))
  rw [h2, h1]; rfl
/-- an input's values, dropped if they may be -/
def outN (N : Net) (ls out : List Int) (k : Nat) : List Int := if tSure N (out.set k 2) ls then out.set k 2 else out
/-- how drop leaves things -/
def DropT (d : DC) (B : Nat) (ls out : List Int) (M : List Bool) (k : Nat) (w : World) (e : Ending) (w' : World) : Prop :=
  e = .returned (.tuple #[]) ∧ ∃ M', DpB d B w' (tSt (outN (d.ns.map absN) ls out k) (d.ns.map absN)).1 M' ∧ Moved (DB d.tv d.tm B) (DB d.tv d.tm B) w w' ∧ (∀ m, M'.getD m false = true → Fo (d.ns.map absN) ls (outN (d.ns.map absN) ls out k) m) ∧ ∀ m, M.getD m false = true → M'.getD m false = true
/-- what stands while the marks grow -/
def MarkI (d : DC) (B : Nat) (T ls out' : List Int) (M : List Bool) (w wr : World) (fv : Value) (R : List Int) (M1 : List Bool) : Prop :=
  DpB d B wr T M1 ∧ Moved (DB d.tv d.tm B) (DB d.tv d.tm B) w wr ∧ wr.ownsRow B 3 1 fv R.length (R.map (Value.int .i64)) ∧ (∀ m, M1.getD m false = true → Fo (d.ns.map absN) ls out' m) ∧ ∀ m, M.getD m false = true → M1.getD m false = true
set_option maxRecDepth 100000 in
set_option maxHeartbeats 3200000 in
theorem dropm_any (d : DC) (B : Nat) (V T ls out : List Int) (M : List Bool) (v k : Nat) (w : World) (h : DpB d B w V M) (hf : FreeIn d.ns d.F V T ls out M v k) (hM : ∀ x ∈ ls, M.getD (litVar x).toNat false = true) (hs : tSure (d.ns.map absN) out ls = true) :
    Calls Try.prog 31 #[.pointer (some ⟨d.g, 0, none⟩), .int .i64 (v : Int)] w (DropT d B ls out M k w) := by
  have HC := Lib.hid (free_any d B V T ls out M v k w h hf)
  have hml := h.toDp.lens
  have hlen := h.len
  have HF := Lib.hid hf
  have HML := Lib.hid hml
  have HLN := Lib.hid hlen
  have HM := Lib.hid hM
  have HS := Lib.hid hs
  clear h hf hml hlen hM hs
  go_enter Try.func31, Try.ntmps31
  go_wp2_with fail
  go_at_call 46; refine HC.out.mono ?_; rintro e w1 ⟨fv, U, R, b, rfl, hd1, hm1, hr1, hok⟩
  obtain ⟨fa, fc, rfl⟩ := own_sliceI hr1
  have HD1 := Lib.hid hd1
  have HM1 := Lib.hid hm1
  have HR1 := Lib.hid hr1
  have HOK := Lib.hid hok
  obtain ⟨n, hn⟩ : ∃ n, n = R.length := ⟨_, rfl⟩
  have HNN := Lib.hid hn
  have hn2 : n ≤ 1002 := by have h1 := hok.room; have h2 := HML.out.1; have h3 := HLN.out; omega
  rw [← hn]
  clear hd1 hm1 hr1 hok hn HC
  cases b with
  | false =>
    have HO : Hid (outN (d.ns.map absN) ls out k = out) := Lib.hid (by unfold outN; rw [HOK.out.no rfl]; rfl)
    have HRS := Lib.hid (fun i (hi : i < R.length) => resL_step d.F U hi)
    have HOR : Hid (∀ i, i < R.length → ∃ j : Nat, R.getD i 0 = (j : Int) ∧ j < V.length ∧ V.getD j 0 = d.F.getD j 0) := Lib.hid (fun i hi => HOK.out.org _ (by simp [List.getD, hi]))
    go_wp2_with fail
    go_loopw [22] (fun iv wr => ∃ (i : Nat), i ≤ n ∧ iv = .int .i64 i ∧ Hid (DpB d B wr (resL d.F U (R.take i)) M ∧ Moved (DB d.tv d.tm B) (DB d.tv d.tm B) w wr ∧ wr.ownsRow B 3 1 (.slice fa R.length fc) R.length (R.map (Value.int .i64)))) (fun iv _ => n - (intOf iv).toNat)
    case atStart => exact ⟨0, Nat.zero_le _, by go_num, Lib.hid ⟨HD1.out, HM1.out, HR1.out⟩⟩
    case round =>
      clear HD1 HR1 HM1
      obtain ⟨i, hin, rfl, HW⟩ := hrel
      obtain ⟨wo, rfl⟩ : ∃ wo : World, wo = wr := ⟨_, rfl⟩
      by_cases hlt : i < n
      · obtain ⟨j, hj1, hj2, hj3⟩ := HOR.out i (by rw [← HNN.out]; exact hlt)
        have hst := HRS.out i (by rw [← HNN.out]; exact hlt)
        rw [hj1, Int.toNat_natCast] at hst
        have HST := Lib.hid hst
        obtain ⟨t, c, hfv, l1, l2, l3⟩ := own_formI HW.out.2.2 HNN.out.symm (by omega)
        have hfa : fa = some ⟨t, 0, none⟩ := (Value.slice.inj hfv).1
        subst hfa
        have hrow := HW.out.2.2
        have e1 : wo.cell? ⟨t, i, none⟩ = some (.int .i64 (j : Int)) := by
          rw [← HNN.out] at hrow
          rw [hrow.cellAt i (by omega), List.getElem?_map, List.getElem?_eq_getElem (by rw [← HNN.out]; exact hlt)]
          rw [← hj1]; simp [List.getD, show i < R.length by rw [← HNN.out]; exact hlt]
        have hjq : j < d.q := by rw [← HML.out.1]; exact hj2
        obtain ⟨-, -, c2, c3, -⟩ := HW.out.1.toDp.cG
        obtain ⟨y1, y2⟩ := HW.out.1.toDp.cV hjq
        obtain ⟨fb, foff, hfb, hfl, e2⟩ := HW.out.1.first.cell_ hjq
        have hfe : fb = d.fb ∧ foff = d.foff := by simpa using hfb.symm
        obtain ⟨rfl, rfl⟩ := hfe
        obtain ⟨z, hz⟩ : ∃ z, z = d.F.getD j 0 := ⟨_, rfl⟩
        rw [← hz] at e2 HST
        have d1 : (i : Int) < (n : Int) := by omega
        have d2 : 0 ≤ (i : Int) := by omega
        have d3 : (j : Int) < (d.q : Int) := by omega
        have d4 : 0 ≤ (j : Int) := by omega
        have HE : Hid (∀ N, DpB d B ((wo.drewN N).setCell ⟨d.tv, j, none⟩ (.int .i64 z)) (resL d.F U (R.take (i + 1))) M ∧ Moved (DB d.tv d.tm B) (DB d.tv d.tm B) w ((wo.drewN N).setCell ⟨d.tv, j, none⟩ (.int .i64 z)) ∧ ((wo.drewN N).setCell ⟨d.tv, j, none⟩ (.int .i64 z)).ownsRow B 3 1 (.slice (some ⟨t, 0, none⟩) R.length fc) R.length (R.map (Value.int .i64))) := Lib.hid (fun N => by
          have hb : Below wo.heap.size wo (wo.drewN N) := below_drewN (Below.refl _ _) N
          obtain ⟨g1, g2⟩ := HW.out.1.on hb
          obtain ⟨g3, g4⟩ := g1.setV j z
          rw [← HST.out] at g3
          refine ⟨g3, HW.out.2.1.trans (g2.trans g4), own_moved (own_on HW.out.2.2 hb) (dw_set d.tv d.tm d.tv j (.inl rfl) (wo.drewN N) (.int .i64 z)) (fun k hk e => ?_)⟩
          have hk' : t = k := by simpa [Value.ownBlock] using hk
          have := HW.out.1.low
          rcases e with e | e <;> omega)
        clear hj1 hj2 hj3 hst hfv hrow hfb hz hfl
        go_upto_region 5 with fail
        go_region
        have HE1 := Lib.hid (HE.out 1)
        clear HE y1 y2 e1 e2 c2 c3
        go_wp2_with fail
        go_roundw
        case rel => exact ⟨i + 1, by omega, by go_num, HE1⟩
        case measure => simp [intOf]; omega
      · obtain rfl : n = i := by omega
        have HE : Hid (DropT d B ls out M k w (.returned (.tuple #[])) wo) := Lib.hid (by
          have h1 := HW.out.1
          rw [HNN.out, List.take_length, HOK.out.back, HF.out.hV] at h1
          refine ⟨rfl, M, ?_, HW.out.2.1, ?_, fun _ h => h⟩
          · rw [HO.out]; exact h1
          · rw [HO.out]; exact HF.out.fo)
        clear hlt hin
        go_wp2_with fail
        refine bodyPost_ret (results_none rfl _ _ _) rfl ?_
        exact HE.out
  | true =>
    obtain ⟨hUT, hsame⟩ := HOK.out.yes rfl
    subst hUT
    have hsu : tSure (d.ns.map absN) (out.set k 2) ls = true := sure_stays HM.out (fun j hj => by rw [← HF.out.hT, ← HF.out.hV]; exact hsame j hj) HS.out
    have HO : Hid (outN (d.ns.map absN) ls out k = out.set k 2) := Lib.hid (by unfold outN; rw [hsu]; rfl)
    have HI0 : Hid (MarkI d B U ls (out.set k 2) M w w1 (.slice fa R.length fc) R M) := Lib.hid ⟨HD1.out, HM1.out, HR1.out, fun m hm => (HF.out.fo m hm).lower (lower_set out k), fun _ h => h⟩
    have HOR : Hid (∀ i, i < R.length → ∃ j : Nat, R.getD i 0 = (j : Int) ∧ j < V.length) := Lib.hid (fun i hi => by obtain ⟨j, h1, h2, -⟩ := HOK.out.org _ (by simp [List.getD, hi] : R.getD i 0 ∈ R); exact ⟨j, h1, h2⟩)
    clear hsame hsu HD1 HM1 HR1
    go_wp2_with fail
    go_loopw [42] (fun iv wr => ∃ (i : Nat) (M1 : List Bool), i ≤ n ∧ iv = .int .i64 i ∧ Hid (MarkI d B U ls (out.set k 2) M w wr (.slice fa R.length fc) R M1)) (fun iv _ => n - (intOf iv).toNat)
    case atStart => exact ⟨0, M, Nat.zero_le _, by go_num, HI0⟩
    case round =>
      clear HI0
      obtain ⟨i, M1, hin, rfl, HW⟩ := hrel
      obtain ⟨wo, rfl⟩ : ∃ wo : World, wo = wr := ⟨_, rfl⟩
      by_cases hlt : i < n
      · obtain ⟨x, hx1, hx2⟩ := HOR.out i (by rw [← HNN.out]; exact hlt)
        obtain ⟨t, c, hfv, l1, l2, l3⟩ := own_formI HW.out.2.2.1 HNN.out.symm (by omega)
        have hfa : fa = some ⟨t, 0, none⟩ := (Value.slice.inj hfv).1
        subst hfa
        have hrow := HW.out.2.2.1
        have e1 : wo.cell? ⟨t, i, none⟩ = some (.int .i64 (x : Int)) := by
          rw [← HNN.out] at hrow
          rw [hrow.cellAt i (by omega), List.getElem?_map, List.getElem?_eq_getElem (by rw [← HNN.out]; exact hlt)]
          rw [← hx1]; simp [List.getD, show i < R.length by rw [← HNN.out]; exact hlt]
        have hxq : x < d.q := by rw [← HML.out.1]; exact hx2
        obtain ⟨-, c1, -, -, -⟩ := HW.out.1.toDp.cG
        obtain ⟨gb', goff', gv, hga, hgl, e2, hgv⟩ := HW.out.1.gates.at_ hxq
        have hfe : (fanLL d.ns).getD x [] = fanL d.ns x := fanLL_at (by rw [HML.out.2.2.2]; have := HLN.out; omega)
        rw [hfe] at hgv
        have hfl := fanL_len d.ns x
        have HGV0 := Lib.hid hgv
        obtain ⟨ga, gc, rfl, p1, p2⟩ : ∃ a c, gv = .slice a (fanL d.ns x).length c ∧ (fanL d.ns x).length ≤ c ∧ c ≤ maxLen := by obtain ⟨a, c, h1, h2, h3, -⟩ := hgv; exact ⟨a, c, h1, h2, h3⟩
        unfold maxLen at p2
        obtain ⟨m, hm⟩ : ∃ m, m = (fanL d.ns x).length := ⟨_, rfl⟩
        rw [← hm] at HGV0 hfl p1 e2
        have HMM := Lib.hid hm
        have d1 : (i : Int) < (n : Int) := by omega
        have d2 : 0 ≤ (i : Int) := by omega
        have d4 : (x : Int) < (d.q : Int) := by omega
        have d5 : 0 ≤ (x : Int) := by omega
        have hmm : m ≤ 1000 := by have := HML.out.2.2.2; have := HLN.out; omega
        have HGE : Hid (gb' = d.gb ∧ goff' = d.goff) := Lib.hid (by simpa using hga.symm)
        have e3 : wo.cell? ⟨d.gb, d.goff + x, none⟩ = some (.slice ga m gc) := by rw [← HGE.out.1, ← HGE.out.2]; exact e2
        have HGV : Hid (∀ W, Moved (DB d.tv d.tm B) (DB d.tv d.tm B) wo W → KInts (DB d.tv d.tm B) W (.slice ga m gc) (fanL d.ns x)) := Lib.hid (fun W hm => HGV0.out.move hm)
        have HFI := Lib.hid (fun p hp => fan_is (ns := d.ns) (x := x) (p := p) hp)
        clear hx1 hx2 hrow hga hgl e2 hgv hfe hfl hm hfv l2 HGV0
        go_wp2_with fail
        clear c1 e1 e3
        go_loopw [54] (fun pv wr => ∃ (p : Nat) (M1 : List Bool), p ≤ m ∧ pv = .int .i64 p ∧ Hid (MarkI d B U ls (out.set k 2) M w wr (.slice (some ⟨t, 0, none⟩) R.length fc) R M1 ∧ Moved (DB d.tv d.tm B) (DB d.tv d.tm B) wo wr)) (fun pv _ => m - (intOf pv).toNat)
        case atStart => exact ⟨0, M1, Nat.zero_le _, by go_num, Lib.hid ⟨HW.out, Moved.refl _ _⟩⟩
        case round =>
          clear HW
          obtain ⟨p, M2, hpm, rfl, HW⟩ := hrel
          obtain ⟨wi, rfl⟩ : ∃ wi : World, wi = wr := ⟨_, rfl⟩
          by_cases hpl : p < m
          · obtain ⟨b5, off5, rfl, hb5l, e1⟩ := (HGV.out _ HW.out.2).cell_ hpl
            obtain ⟨kk, hg1, hkn, -⟩ := HFI.out p (by rw [← HMM.out]; exact hpl)
            rw [hg1] at e1
            obtain ⟨g, hgk⟩ : ∃ g, g = kk + 1 := ⟨_, rfl⟩
            rw [← hgk] at e1 hg1
            have hgm : g ≤ d.m := by have := HML.out.2.2.2; omega
            have hgq : g < d.q := by have := HLN.out; omega
            obtain ⟨-, -, -, -, c4⟩ := HW.out.1.1.toDp.cG
            obtain ⟨m1, -⟩ := HW.out.1.1.toDp.cM hgq
            obtain ⟨mg, hmg⟩ : ∃ b, b = M2.getD g false := ⟨_, rfl⟩
            rw [← hmg] at m1
            have HMG := Lib.hid hmg
            have q1 : (p : Int) < (m : Int) := by omega
            have q2 : 0 ≤ (p : Int) := by omega
            have q3 : (g : Int) < (d.q : Int) := by omega
            have q4 : 0 ≤ (g : Int) := by omega
            have hgs : g ≤ 1001 := by have := HLN.out; omega
            have hp1000 : p ≤ 1000 := by omega
            have HGM := Lib.hid hgm
            clear hg1 hkn hgk hgm hmg hgq hb5l
            cases mg with
            | false =>
              go_wp2_with fail
              go_roundw
              case rel => exact ⟨p + 1, M2, by omega, by go_num, HW⟩
              case measure => simp [intOf]; omega
            | true =>
              have HC := Lib.hid (causes_any d U M2 g wi HW.out.1.1.toDp HF.out.good HGM.out)
              have hcf := cause_fo (ns := d.ns) (ls := ls) (out := out.set k 2) HF.out.good HF.out.small (v := g) (by rw [HML.out.2.2.2]; exact HGM.out) (HW.out.1.2.2.2.1 g HMG.out.symm)
              have hlc := causeL_len U d.ns g
              rw [← HF.out.hT, HML.out.2.2.2] at hcf
              obtain ⟨C, hC⟩ : ∃ C, C = causeL U d.ns g := ⟨_, rfl⟩
              rw [← hC] at HC hcf hlc
              have hl2 := HW.out.1.1.toDp.lens.2.1
              have HHO : Hid (Ho (d.ns.map absN) ls (out.set k 2) M2 C M2 C) := Lib.hid (ho_start HW.out.1.2.2.2.1 (fun s hs => by
                obtain ⟨j, h1, h2, h3⟩ := hcf s hs
                exact ⟨j, h1, by rw [hl2]; have := HLN.out; omega, h3⟩))
              have HLC := Lib.hid hlc
              clear hcf hlc hC hl2
              go_wp2_with fail
              go_at_call 47; refine HC.out.mono ?_; rintro e3 w3 ⟨u, rfl, r3, b3⟩
              obtain ⟨ua, uc, rfl⟩ := own_sliceI r3
              have hdb := (HW.out.1.1.toDp.toB.on b3).1
              have HH := Lib.hid (hold_any d wi.heap.size U ls (out.set k 2) M2 C _ w3 hdb HF.out.good HF.out.hT HHO.out r3 (by have := HLC.out; omega))
              have HB3 := Lib.hid b3
              clear r3 b3 hdb
              go_wp2_with fail
              go_at_call 45; refine HH.out.mono ?_; rintro e4 w4 ⟨rfl, M3, hd3, hm3, ho3⟩
              have hbz : B ≤ wi.heap.size := HW.out.1.1.low.2.2.2
              obtain ⟨g1, g2⟩ := HW.out.1.1.on HB3.out
              obtain ⟨g3, g4⟩ := g1.join hd3 hm3 hbz
              have HE : Hid (MarkI d B U ls (out.set k 2) M w w4 (.slice (some ⟨t, 0, none⟩) R.length fc) R M3 ∧ Moved (DB d.tv d.tm B) (DB d.tv d.tm B) wo w4) := Lib.hid (by
                refine ⟨⟨g3, HW.out.1.2.1.trans (g2.trans g4), own_moved (own_on HW.out.1.2.2.1 HB3.out) hm3 (fun k hk e => ?_), ho3.fo, fun m hm => ho3.more m (HW.out.1.2.2.2.2 m hm)⟩, HW.out.2.trans (g2.trans g4)⟩
                have hk' : t = k := by simpa [Value.ownBlock] using hk
                have h1 := HW.out.1.1.low
                have h2 := (HW.out.1.2.2.1.lt t rfl)
                rcases e with e | e | e <;> omega)
              clear hd3 hm3 ho3 hbz g1 g2 g3 g4 m1 c4 HB3 HH HC
              go_wp2_with fail
              go_roundw
              case rel => exact ⟨p + 1, M3, by omega, by go_num, HE⟩
              case measure => simp [intOf]; omega
          · obtain rfl : m = p := by omega
            have HE := Lib.hid HW.out.1
            clear hpl hpm
            go_wp2_with fail
            go_roundw
            case rel => exact ⟨i + 1, M2, by omega, by go_num, HE⟩
            case measure => simp [intOf]; omega
      · obtain rfl : n = i := by omega
        have HE : Hid (DropT d B ls out M k w (.returned (.tuple #[])) wo) := Lib.hid (by
          have h1 := HW.out.1
          rw [HF.out.hT] at h1
          refine ⟨rfl, M1, ?_, HW.out.2.1, ?_, HW.out.2.2.2.2⟩
          · rw [HO.out]; exact h1
          · rw [HO.out]; exact HW.out.2.2.2.1)
        clear hlt hin
        go_wp2_with fail
        refine bodyPost_ret (results_none rfl _ _ _) rfl ?_
        exact HE.out
end Go.Proofs.Ytoacedadfjoneaa.aig
