/- The walks of the project's newDropper, and of Drop; all that the project's values that may be open have to be. -/
import Derived.Test.YtoacedadfjoneaaWh
import Derived.Test.YtoacedadfjoneaaU6
import Derived.Lib.SliceRun
namespace Go.Proofs.Ytoacedadfjoneaa.aig
open Go.RowKit
open Go.Proofs.Ytoacedadfjoneaa.mem Go.Proofs.Ytoacedadfjoneaa.agf Go.Proofs.Ytoacedadfjoneaa.fns
open Go.Proofs.Ytoacedadfjoneaa.ints (Ints ints_of_owned below_drewN)
open Go.Proofs.Ytoacedadfjoneaa.tri (tLit)

theorem mk_bools (n : Nat) (w : World) (hn : n ≤ 1048576) : (Instr.makeSlice 35 (.int .i64 (n : Int)) (.int .i64 (n : Int))).run Try.prog w =
    .ok (.slice (some ⟨w.heap.size, 0, none⟩) n n) (w.alloc (.cells (madeCells #[.bool false] n) 4)) := by
  obtain ⟨i0, hi, hz0, hz1, hz2⟩ := info_parts infoB
  have h := run_make (P := Try.prog) w 35 4 i0 _ Try.underlying35 hi hz0 .i64 .i64 n n (by omega) (Int.le_refl _) (by rw [hz2]; omega) (by omega)
  rw [hz1, Nat.mul_one, Int.toNat_natCast] at h
  exact h
theorem row_mkB (w : World) (n A : Nat) (hn : n ≤ 1048576) (hA : A ≤ w.heap.size) : (w.alloc (.cells (madeCells #[.bool false] n) 4)).ownsRow A 4 1 (.slice (some ⟨w.heap.size, 0, none⟩) n n) n ((List.replicate n false).map Value.bool) :=
  ⟨by simp, .inr ⟨w.heap.size, n, _, rfl, hA, heap_alloc_new w _, Nat.le_refl _, by unfold maxLen; omega, by simp [madeCells], by rw [toList_madeCells_one, List.take_of_length_le (by simp)]; simp⟩⟩
/-- a list of numbers, cloned -/
theorem iclone_any (v : Value) (zs : List Int) (w : World) (hv : Ints w v zs) (h0 : 0 < zs.length) (hn : zs.length ≤ 100000) :
    Calls Try.prog 44 #[v] w fun e w' => ∃ t c, e = .returned (.slice (some ⟨t, 0, none⟩) zs.length c) ∧ w'.ownsRow w.heap.size 3 1 (.slice (some ⟨t, 0, none⟩) zs.length c) zs.length (zs.map (Value.int .i64)) ∧ Below w.heap.size w w' := by
  obtain ⟨i0, hi, hz0, hz1, hz2⟩ := info_parts infoI
  have hk : ∀ W : World, ∀ a n c, (binOp .eql 23 (.slice a n c) (.slice none 0 0)).run Try.prog W = .ok (.bool a.isNone) W := fun W a n c => Lib.run_eql_slice_nil W 23 3 a n c 0 0 Try.underlying23
  obtain ⟨a, cap, rfl, l1, l2, hc⟩ := hv
  obtain ⟨b, off, rfl, hlt, -⟩ := hc h0
  have hv : Ints w (.slice (some ⟨b, off, none⟩) zs.length cap) zs := ⟨_, _, rfl, l1, l2, hc⟩
  have hk2 := fun W => hk W (some ⟨b, off, none⟩) zs.length cap
  simp only [Option.isNone] at hk2
  have hmade : (w.alloc (.cells #[] 3)).ownsRow w.heap.size 3 1 (.slice (some ⟨w.heap.size, 0, none⟩) 0 0) 0 [] := World.ownsRow_made _ #[] 0 (Nat.le_refl _) (by unfold maxLen; omega) rfl
  have hb0 : Below w.heap.size w (w.alloc (.cells #[] 3)) := (Below.refl _ w).alloc (Nat.le_refl _) _
  have HN := Lib.hid (ints.news_of hv hb0)
  have HM := Lib.hid hmade
  have HB := Lib.hid hb0
  obtain ⟨n, hnn⟩ : ∃ n, n = zs.length := ⟨_, rfl⟩
  rw [← hnn] at hn hk2 h0
  have HNN := Lib.hid hnn
  rw [← hnn]
  unfold maxLen at l2
  clear hv hk hmade hb0 hnn hc l1
  go_enter Try.func44, Try.ntmps44
  go_wp2_with (at_builtin; refine wpList_append_own _ rfl _ _ 23 rfl w.heap.size 3 i0 _ 1 8 Try.underlying23 hi hz0 hz1 hz2 rfl (by decide) (.slice (some ⟨w.heap.size, 0, none⟩) 0 0) 0 [] rfl HM.out ⟨b, off, none⟩ n cap (zs.map (Value.int .i64)) rfl (by simp [HNN.out]) HN.out (fun u hu => by obtain ⟨z, -, rfl⟩ := List.mem_map.1 hu; rfl) (by unfold maxLen; omega) (by omega) (by simp) ?_)
  intro u w1 hown hgrow _
  obtain ⟨t, c, rfl, -⟩ := own_formI (v := u) (L := zs) (n := n) (by rw [← HNN.out]; exact hown) HNN.out.symm h0
  have HE : Hid (w1.ownsRow w.heap.size 3 1 (.slice (some ⟨t, 0, none⟩) n c) n (zs.map (Value.int .i64)) ∧ Below w.heap.size w w1) := Lib.hid ⟨hown, HB.out.grown hgrow (by simp) (fun k hk => (HM.out.lt k hk).1)⟩
  clear hown hgrow
  go_wp2_with fail
  go_ret
  exact ⟨t, c, rfl, HE.out⟩
/-- a dropper that has been made -/
def DpNew (ns : List (Int × Int)) (F : List Int) (M : List Bool) (w : World) (pv : Value) (wx : World) : Prop :=
  ∃ d : DC, pv = .pointer (some ⟨d.g, 0, none⟩) ∧ d.ns = ns ∧ d.F = F ∧ d.A = w.heap.size ∧ Dp d wx F M ∧ Below w.heap.size w wx
theorem new_end {ns : List (Int × Int)} {F : List Int} {w wx : World} {na : Option Addr} {ncap m q a1 b1 tv c tm : Nat} {fv gv : Value} (hb : Below w.heap.size w wx) (hn : KNds (fun _ => False) w (.slice na m ncap) ns) (hf : Ints w fv F) (hF : F.length = q) (hq : m + 1 = q) (hq2 : q ≤ 1001)
    (hg : KGrid (fun k => k < a1 ∨ b1 ≤ k) wx gv (fanLL ns)) (hv : wx.ownsRow w.heap.size 3 1 (.slice (some ⟨tv, 0, none⟩) q c) q (F.map (Value.int .i64))) (hm : wx.ownsRow w.heap.size 4 1 (.slice (some ⟨tm, 0, none⟩) q q) q ((List.replicate q false).map Value.bool))
    (h1 : tv < a1 ∨ b1 ≤ tv) (h2 : tm < a1 ∨ b1 ≤ tm) (h3 : tv ≠ tm) (t : TypeId) :
    DpNew ns F (List.replicate q false) w (.pointer (some ⟨wx.heap.size, 0, none⟩)) (wx.alloc (.cells #[.slice na m ncap, gv, fv, .slice (some ⟨tv, 0, none⟩) q c, .slice (some ⟨tm, 0, none⟩) q q] t)) := by
  obtain ⟨x1, x2⟩ := hv.lt tv rfl
  obtain ⟨y1, y2⟩ := hm.lt tm rfl
  have hns : ns.length = m := by obtain ⟨a, cap, e, -⟩ := hn; exact (Value.slice.inj e).2.1.symm
  have hgl : (fanLL ns).length = q := by rw [fanLL_len, hns, hq]
  obtain ⟨ga, gcap, rfl, -, -⟩ := hg.form
  rw [hgl] at hg ⊢
  obtain ⟨gb, goff, -, rfl, -⟩ := hg.at_ (i := 0) (by omega)
  obtain ⟨fa, fcap, rfl, k1, k2, hfc⟩ := hf
  obtain ⟨fb, foff, rfl, hfl, -⟩ := hfc (by omega)
  have hf : Ints w (.slice (some ⟨fb, foff, none⟩) F.length fcap) F := ⟨_, _, rfl, k1, k2, hfc⟩
  rw [hF] at hf ⊢
  have ha := alloc_below wx (.cells #[.slice na m ncap, .slice (some ⟨gb, goff, none⟩) q gcap, .slice (some ⟨fb, foff, none⟩) q fcap, .slice (some ⟨tv, 0, none⟩) q c, .slice (some ⟨tm, 0, none⟩) q q] t)
  have hW := hb.trans (ha.mono hb.size)
  refine ⟨⟨w.heap.size, wx.heap.size, tv, c, tm, q, m, na, ncap, gb, goff, gcap, fb, foff, fcap, ns, F⟩, rfl, rfl, rfl, rfl, ⟨⟨t, heap_alloc_new wx _⟩, ?_, ?_, ?_, own_on hv ha, own_on hm ha, ⟨hb.size, by dsimp only; omega, by dsimp only; omega, h3⟩, hq, hq2⟩, hW⟩
  · exact (knds_kept (Q := DW tv tm) hn (fun k hk e => by rcases e with e | e <;> omega)).move (moved_of_below hW)
  · exact (hg.move (moved_of_below ha)).weak (fun k hk e => by rcases e with rfl | rfl; exact h1; exact h2)
  · exact (ints_kints (P := DW tv tm) hf (fun k hk e => by rcases e with e | e <;> omega)).move (moved_of_below hW)
section
variable {ns : List (Int × Int)} {F : List Int} {w wf wc : World} {na : Option Addr} {ncap m q tv c : Nat} {fv gv : Value}
theorem new_o1 (hn : KNds (fun _ => False) w (.slice na m ncap) ns) (hf : Ints w fv F) (hF : F.length = q) (hq : m + 1 = q) (hq2 : q ≤ 1001)
    (kf : KGrid (fun k => k < (w.alloc (.cells (madeCells #[.bool false] q) 4)).drew.heap.size) wf gv (fanLL ns)) (bf : Below (w.alloc (.cells (madeCells #[.bool false] q) 4)).drew.heap.size (w.alloc (.cells (madeCells #[.bool false] q) 4)).drew wf)
    (rc : wc.ownsRow wf.heap.size 3 1 (.slice (some ⟨tv, 0, none⟩) q c) q (F.map (Value.int .i64))) (bc : Below wf.heap.size wf wc) (t : TypeId) :
    DpNew ns F (List.replicate q false) w (.pointer (some ⟨wc.heap.size, 0, none⟩)) (wc.alloc (.cells #[.slice na m ncap, gv, fv, .slice (some ⟨tv, 0, none⟩) q c, .slice (some ⟨w.heap.size, 0, none⟩) q q] t)) := by
  have ha : Below w.heap.size w (w.alloc (.cells (madeCells #[.bool false] q) 4)).drew := (alloc_below w _).drew
  have h1 := ha.trans (bf.mono ha.size)
  have h2 := h1.trans (bc.mono h1.size)
  have hz : (w.alloc (.cells (madeCells #[.bool false] q) 4)).drew.heap.size = w.heap.size + 1 := by show (w.alloc _).heap.size = _; simp
  have hr := rc.lt tv rfl
  have hb : w.heap.size + 1 ≤ wf.heap.size := by rw [← hz]; exact bf.size
  have rm := own_on (own_on (own_on (row_mkB w q w.heap.size (by omega) (Nat.le_refl _)) (Below.refl _ _).drew) bf) bc
  exact new_end h2 hn hf hF hq hq2 ((kf.weak (Q := fun k => k < (w.alloc (.cells (madeCells #[.bool false] q) 4)).drew.heap.size ∨ wf.heap.size ≤ k) (fun k hk e => by rcases e with e | e; exact e; omega)).move (moved_of_below bc)) (row_up rc h1.size) rm (.inr hr.1) (.inl (by rw [hz]; exact Nat.lt_succ_self _)) (by have := hr.1; show tv ≠ w.heap.size; omega) t
theorem new_o2 (hn : KNds (fun _ => False) w (.slice na m ncap) ns) (hf : Ints w fv F) (hF : F.length = q) (hq : m + 1 = q) (hq2 : q ≤ 1001)
    (kf : KGrid (fun k => k < w.drew.heap.size) wf gv (fanLL ns)) (bf : Below w.drew.heap.size w.drew wf)
    (rc : wc.ownsRow (wf.alloc (.cells (madeCells #[.bool false] q) 4)).heap.size 3 1 (.slice (some ⟨tv, 0, none⟩) q c) q (F.map (Value.int .i64))) (bc : Below (wf.alloc (.cells (madeCells #[.bool false] q) 4)).heap.size (wf.alloc (.cells (madeCells #[.bool false] q) 4)) wc) (t : TypeId) :
    DpNew ns F (List.replicate q false) w (.pointer (some ⟨wc.heap.size, 0, none⟩)) (wc.alloc (.cells #[.slice na m ncap, gv, fv, .slice (some ⟨tv, 0, none⟩) q c, .slice (some ⟨wf.heap.size, 0, none⟩) q q] t)) := by
  have hd : Below w.heap.size w w.drew := (Below.refl _ w).drew
  have h1 := hd.trans (bf.mono hd.size)
  have ha := alloc_below wf (.cells (madeCells #[.bool false] q) 4)
  have h2 := h1.trans (ha.mono h1.size)
  have h3 := h2.trans (bc.mono h2.size)
  have hz : (wf.alloc (.cells (madeCells #[.bool false] q) 4)).heap.size = wf.heap.size + 1 := by simp
  have hr : wf.heap.size + 1 ≤ tv := by rw [← hz]; exact (rc.lt tv rfl).1
  have rm := own_on (row_mkB wf q w.heap.size (by omega) h1.size) bc
  exact new_end h3 hn hf hF hq hq2 (((kf.weak (Q := fun k => k < w.drew.heap.size ∨ wf.heap.size ≤ k) (fun k hk e => by rcases e with e | e; exact e; omega)).move (moved_of_below ha)).move (moved_of_below bc)) (row_up rc h2.size) rm (.inr (by omega)) (.inr (Nat.le_refl _)) (by omega) t
theorem new_o3 (hn : KNds (fun _ => False) w (.slice na m ncap) ns) (hf : Ints w fv F) (hF : F.length = q) (hq : m + 1 = q) (hq2 : q ≤ 1001)
    (kf : KGrid (fun k => k < w.drew.heap.size) wf gv (fanLL ns)) (bf : Below w.drew.heap.size w.drew wf)
    (rc : wc.ownsRow wf.heap.size 3 1 (.slice (some ⟨tv, 0, none⟩) q c) q (F.map (Value.int .i64))) (bc : Below wf.heap.size wf wc) (t : TypeId) :
    DpNew ns F (List.replicate q false) w (.pointer (some ⟨wc.heap.size + 1, 0, none⟩)) ((wc.alloc (.cells (madeCells #[.bool false] q) 4)).alloc (.cells #[.slice na m ncap, gv, fv, .slice (some ⟨tv, 0, none⟩) q c, .slice (some ⟨wc.heap.size, 0, none⟩) q q] t)) := by
  have hd : Below w.heap.size w w.drew := (Below.refl _ w).drew
  have h1 := hd.trans (bf.mono hd.size)
  have h2 := h1.trans (bc.mono h1.size)
  have ha := alloc_below wc (.cells (madeCells #[.bool false] q) 4)
  have h3 := h2.trans (ha.mono h2.size)
  have hr := rc.lt tv rfl
  have hb := bc.size
  have e : wc.heap.size + 1 = (wc.alloc (.cells (madeCells #[.bool false] q) 4)).heap.size := by simp
  rw [e]
  exact new_end h3 hn hf hF hq hq2 (((kf.weak (Q := fun k => k < w.drew.heap.size ∨ wf.heap.size ≤ k) (fun k hk e => by rcases e with e | e; exact e; omega)).move (moved_of_below bc)).move (moved_of_below ha)) (own_on (row_up rc h1.size) ha) (row_mkB wc q w.heap.size (by omega) h2.size) (.inr hr.1) (.inr hb) (by omega) t
end
/-- how newDropper leaves things -/
def NewT (ns : List (Int × Int)) (F ls out : List Int) (w : World) (e : Ending) (w' : World) : Prop :=
  ∃ (pv : Value) (M : List Bool), e = .returned pv ∧ DpNew ns F M w pv w' ∧ (∀ m, M.getD m false = true → Fo (ns.map absN) ls out m) ∧ ∀ x ∈ ls, M.getD (litVar x).toNat false = true
set_option maxHeartbeats 3200000 in
theorem new_any (nv fv lv : Value) (ns : List (Int × Int)) (F ls out : List Int) (w : World) (hn : KNds (fun _ => False) w nv ns) (hg : GoodN ns) (hns : ns.length ≤ 1000) (hf : Ints w fv F) (hF : F = (tSt out (ns.map absN)).1) (hl : Ints w lv ls) (hs : tSure (ns.map absN) out ls = true) :
    Calls Try.prog 29 #[nv, fv, lv] w (NewT ns F ls out w) := by
  have hFl : F.length = ns.length + 1 := by rw [hF, tSt_len, List.length_map]
  obtain ⟨na, ncap, rfl, l1, l2⟩ := hn.form
  unfold maxLen at l2
  obtain ⟨fa, fcap, rfl, l3, l4⟩ := Ints.form hf
  unfold maxLen at l4
  obtain ⟨la, lcap, rfl, l5, l6⟩ := Ints.form hl
  unfold maxLen at l6
  have HFA := Lib.hid (fun W hb => fanouts_any (.slice na ns.length ncap) ns W (hn.on hb) hg hns)
  have HCL := Lib.hid (fun W hb => iclone_any (.slice fa F.length fcap) F W (hf.on hb) (by omega) (by omega))
  obtain ⟨q, hq⟩ : ∃ q, q = F.length := ⟨_, rfl⟩
  obtain ⟨m, hm⟩ : ∃ m, m = ns.length := ⟨_, rfl⟩
  have hq2 : q ≤ 1001 := by omega
  have HMK : ∀ W, (Instr.makeSlice 35 (.int .i64 (q : Int)) (.int .i64 (q : Int))).run Try.prog W = .ok (.slice (some ⟨W.heap.size, 0, none⟩) q q) (W.alloc (.cells (madeCells #[.bool false] q) 4)) := fun W => mk_bools q W (by omega)
  rw [← hq] at l3 HCL ⊢
  rw [← hm] at l1 HFA ⊢
  have hqm : m + 1 = q := by omega
  have HO1 := Lib.hid (fun wf wc tv c gv => new_o1 (na := na) (ncap := ncap) (m := m) (q := q) (fv := .slice fa q fcap) (wf := wf) (wc := wc) (tv := tv) (c := c) (gv := gv) (by rw [hm]; exact hn) (by rw [hq]; exact hf) hq.symm hqm hq2)
  have HO2 := Lib.hid (fun wf wc tv c gv => new_o2 (na := na) (ncap := ncap) (m := m) (q := q) (fv := .slice fa q fcap) (wf := wf) (wc := wc) (tv := tv) (c := c) (gv := gv) (by rw [hm]; exact hn) (by rw [hq]; exact hf) hq.symm hqm hq2)
  have HO3 := Lib.hid (fun wf wc tv c gv => new_o3 (na := na) (ncap := ncap) (m := m) (q := q) (fv := .slice fa q fcap) (wf := wf) (wc := wc) (tv := tv) (c := c) (gv := gv) (by rw [hm]; exact hn) (by rw [hq]; exact hf) hq.symm hqm hq2)
  have HD0 : Hid (Below w.heap.size w w.drew) := Lib.hid (Below.refl _ w).drew
  have HDM : Hid (Below w.heap.size w (w.alloc (.cells (madeCells #[.bool false] q) 4)).drew) := Lib.hid (alloc_below w _).drew
  have HL := Lib.hid hl
  have HG := Lib.hid hg
  have HS := Lib.hid hs
  have HF := Lib.hid hF
  obtain ⟨n, hnn⟩ : ∃ n, n = ls.length := ⟨_, rfl⟩
  rw [← hnn] at l5 HL ⊢
  have HNN := Lib.hid hnn
  have HQM := Lib.hid (And.intro hqm hm)
  have HFL := Lib.hid hq
  clear hn hf hF hFl hns hq hm hl hs hg hqm hnn
  go_enter Try.func29, Try.ntmps29
  go_upto_region 1 with fail
  go_cut [7] (fun s7 wx => Hid (DpNew ns F (List.replicate q false) w s7 wx))
  case first =>
    go_region_with ((first
      | (go_at_call 43; ((with_reducible refine (HFA.out w.drew HD0.out).mono ?_)); rintro e wf ⟨gu, rfl, kf, bf⟩; obtain ⟨ga, gcap, rfl, -, -⟩ := kf.form; have hbf := HD0.out.trans (bf.mono HD0.out.size); have hbm := hbf.trans ((alloc_below wf (.cells (madeCells #[.bool false] q) 4)).mono hbf.size))
      | (go_at_call 43; ((with_reducible refine (HFA.out (w.alloc (.cells (madeCells #[.bool false] q) 4)).drew HDM.out).mono ?_)); rintro e wf ⟨gu, rfl, kf, bf⟩; obtain ⟨ga, gcap, rfl, -, -⟩ := kf.form; have hbf := HDM.out.trans (bf.mono HDM.out.size); have hbm := hbf)
      | (go_at_call 44; ((with_reducible refine (HCL.out wf hbf).mono ?_)); rintro e wc ⟨tv, c, rfl, rc, bc⟩)
      | (go_at_call 44; ((with_reducible refine (HCL.out (wf.alloc (.cells (madeCells #[.bool false] q) 4)) hbm).mono ?_)); rintro e wc ⟨tv, c, rfl, rc, bc⟩)))
    all_goals
      first
        | have HE := Lib.hid (HO1.out wf wc tv c _ kf bf rc bc 60)
        | have HE := Lib.hid (HO2.out wf wc tv c _ kf bf rc bc 60)
        | have HE := Lib.hid (HO3.out wf wc tv c _ kf bf rc bc 60)
      clear hbf hbm kf bf rc bc
      go_wp2_with fail
      go_meet
      exact HE
  case rest =>
    obtain ⟨d, hpv, hdn, hdF, hdA, hdp, hdb⟩ := hcut.out
    subst hpv
    obtain ⟨W0, rfl⟩ : ∃ W0 : World, W0 = wc := ⟨_, rfl⟩
    have hqq : d.q = q ∧ d.m = m := by
      have h1 := hdp.lens
      rw [hdn, hdF] at h1
      have h2 := HQM.out; have h3 := HFL.out
      omega
    have HDC := Lib.hid (And.intro hdn (And.intro hdF (And.intro hdA hqq)))
    have HI0 : Hid (Dp d W0 F (List.replicate q false) ∧ Below w.heap.size w W0 ∧ (∀ m, (List.replicate q false).getD m false = true → Fo (ns.map absN) ls out m)) := Lib.hid ⟨hdp, hdb, fun m hm => by
      exfalso
      by_cases h : m < q
      · simp [List.getD, h] at hm
      · simp [List.getD, h] at hm⟩
    clear hcut hdn hdF hdA hdp hdb hqq HO1 HO2 HO3 HD0 HDM HMK HFA HCL
    go_wp2_with fail
    go_loopw [23] (fun iv wr => ∃ (k : Nat) (M : List Bool), k ≤ n ∧ iv = .int .i64 k ∧ Hid ((Dp d wr F M ∧ Below w.heap.size w wr ∧ (∀ m, M.getD m false = true → Fo (ns.map absN) ls out m)) ∧ ∀ j, j < k → M.getD (litVar (ls.getD j 0)).toNat false = true)) (fun iv _ => n - (intOf iv).toNat)
    case atStart => exact ⟨0, _, Nat.zero_le _, by go_num, Lib.hid ⟨HI0.out, fun j hj => by omega⟩⟩
    case round =>
      clear HI0
      obtain ⟨k, M, hk, rfl, HW⟩ := hrel
      obtain ⟨wo, rfl⟩ : ∃ wo : World, wo = wr := ⟨_, rfl⟩
      by_cases hlt : k < n
      · obtain ⟨b, off, rfl, hbl, e1⟩ := ints.ints_cell (HL.out.on HW.out.1.2.1) hlt
        have hmem : ls.getD k 0 ∈ ls := by simp [List.getD, show k < ls.length by rw [← HNN.out]; exact hlt]
        have hone := sure_at HS.out hmem
        rw [← HF.out] at hone
        have hvr : 0 ≤ litVar (ls.getD k 0) ∧ (litVar (ls.getD k 0)).toNat < q := by
          rcases lit_one hone with h | h
          · rw [← HFL.out] at h; exact h
          · rw [h]; have := HQM.out; exact ⟨Int.le_refl _, by simp; omega⟩
        have hfo := fo_lit (N := ns.map absN) (out := out) hmem hvr.1
        obtain ⟨x, hx⟩ : ∃ x, x = ls.getD k 0 := ⟨_, rfl⟩
        rw [← hx] at e1 hvr hfo
        obtain ⟨v, hv⟩ : ∃ v, v = (litVar x).toNat := ⟨_, rfl⟩
        have HVX := Lib.hid (tri.Var_of (x := x) (v := (v : Int)) (by omega))
        rw [← hv] at hfo hvr
        have hr := row_lit wo #[.int .i64 (v : Int)] 1 rfl (by omega)
        have hd := (HW.out.1.1.toB.on (alloc_below wo (.cells #[.int .i64 (v : Int)] 3))).1
        have hlm := HW.out.1.1.lens.2.1
        have HH := Lib.hid (hold_any d wo.heap.size F ls out M [(v : Int)] _ _ hd (by rw [HDC.out.1]; exact HG.out) (by rw [HDC.out.1]; exact HF.out) (ho_start (by rw [HDC.out.1]; exact HW.out.1.2.2) (fun s hs => by rw [List.mem_singleton.1 hs]; exact ⟨v, rfl, by rw [hlm, HDC.out.2.2.2.1]; exact hvr.2, by rw [HDC.out.1]; exact hfo⟩)) hr (by simp))
        have HXX := Lib.hid hx
        have HVV := Lib.hid hv
        have d1 : (k : Int) < (n : Int) := by omega
        have d2 : 0 ≤ (k : Int) := by omega
        clear hbl hmem hone hvr hfo hx hv hr hd hlm
        go_wp2_with fail
        go_at_call 39; refine (HVX.out _).mono ?_; rintro e w1 ⟨rfl, rfl⟩
        go_wp2_with fail
        go_at_call 45; refine HH.out.mono ?_; rintro e4 w4 ⟨rfl, M3, hd3, hm3, ho3⟩
        have hA := HW.out.1.1.lt
        have hA2 := HDC.out.2.2.1
        have hbo := HW.out.1.2.1.size
        have HE : Hid ((Dp d w4 F M3 ∧ Below w.heap.size w w4 ∧ (∀ m, M3.getD m false = true → Fo (ns.map absN) ls out m)) ∧ ∀ j, j < k + 1 → M3.getD (litVar (ls.getD j 0)).toNat false = true) := Lib.hid (by
          refine ⟨⟨hd3.toDp, ?_, ?_⟩, fun j hj => ?_⟩
          · refine (HW.out.1.2.1.trans ((alloc_below wo _).mono hbo)).trans (hm3.below (fun k hk => ?_) (by simp; omega))
            rcases hk with e | e | e <;> omega
          · have := ho3.fo; rw [HDC.out.1] at this; exact this
          · by_cases hjk : j < k
            · exact ho3.more _ (HW.out.2 j hjk)
            · obtain rfl : j = k := by omega
              rw [← HXX.out, ← HVV.out]
              rcases ho3.all (v : Int) (by simp) with h | h
              · simpa using h
              · simp at h)
        clear hd3 hm3 ho3 hA hA2 hbo e1 HH
        go_wp2_with fail
        go_roundw
        case rel => exact ⟨k + 1, M3, by omega, by go_num, HE⟩
        case measure => simp [intOf]; omega
      · obtain rfl : n = k := by omega
        have HE : Hid (NewT ns F ls out w (.returned (.pointer (some ⟨d.g, 0, none⟩))) wo) := Lib.hid ⟨_, M, rfl, ⟨d, rfl, HDC.out.1, HDC.out.2.1, HDC.out.2.2.1, HW.out.1.1, HW.out.1.2.1⟩, HW.out.1.2.2, fun x hx => by
          obtain ⟨j, hj, rfl⟩ := List.mem_iff_getElem.1 hx
          have := HW.out.2 j (by rw [HNN.out]; exact hj)
          simpa [List.getD, hj] using this⟩
        clear hlt hk
        go_wp2_with fail
        go_ret
        exact HE.out
end Go.Proofs.Ytoacedadfjoneaa.aig
