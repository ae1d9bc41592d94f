/- The walk of heap's swap. -/
import Derived.Test.YtpcpjpcejcgodaaK1
namespace Go.Proofs.Ytpcpjpcejcgodaa.heap
open Go.RowKit
open Go.Proofs.Ytpcpjpcejcgodaa.fns Go.Proofs.Ytpcpjpcejcgodaa.hpf Go.Proofs.Ytpcpjpcejcgodaa.ints

set_option maxHeartbeats 1600000 in
theorem swap_any (A B g s p t m c n i k : Nat) (S P T : List Nat) (w : World) (h : Hp A B w g s p (.slice (some ⟨t, 0, none⟩) m c) n S P T) (hw : Wf n P T) (hi : i < T.length) (hk : k < T.length) (hn : n ≤ 1048576) (hm : m ≤ n) :
    Calls Try.prog 21 #[.pointer (some ⟨g, 0, none⟩), .int .i64 i, .int .i64 k] w fun e w' => e = .returned (.tuple #[]) ∧ Hp A B w' g s p (.slice (some ⟨t, 0, none⟩) m c) n S (swP P T i k) (swT T i k) ∧ Off t p w w' := by
  obtain ⟨hl, hmc, hcm, hBt, -⟩ := h.len
  unfold maxLen at hcm
  have HL := Lib.hid hl
  have hi' : i < m := by omega
  have hk' : k < m := by omega
  have HH := Lib.hid h
  have HW := Lib.hid hw
  obtain ⟨-, -, c2, -⟩ := h.cG
  obtain ⟨x1, f1⟩ := h.cT hi
  obtain ⟨x2, f2⟩ := h.cT hk
  have b1 : (i : Int) < (m : Int) := by omega
  have b2 : (k : Int) < (m : Int) := by omega
  have b3 : 0 ≤ (i : Int) := by omega
  have b4 : 0 ≤ (k : Int) := by omega
  obtain ⟨x, hx⟩ : ∃ x, x = T.getD i 0 := ⟨_, rfl⟩
  obtain ⟨y, hy⟩ : ∃ y, y = T.getD k 0 := ⟨_, rfl⟩
  rw [← hx] at x1
  rw [← hy] at x2
  have h1s := h.setT i y
  obtain ⟨u1, x3⟩ : ∃ u, (w.setCell ⟨t, i, none⟩ (.int .i64 (y : Int))).cell? ⟨t, k, none⟩ = some u := ⟨_, (h1s.cT (i := k) (by rw [List.length_set]; exact hk)).1⟩
  have HS : Hid (Hp A B (((w.setCell ⟨t, i, none⟩ (.int .i64 (y : Int))).setCell ⟨t, k, none⟩ (.int .i64 (x : Int)))) g s p (.slice (some ⟨t, 0, none⟩) m c) n S P (swT T i k)) := Lib.hid (by
    unfold swT
    rw [← hx, ← hy]
    exact h1s.setT k x)
  have HB : Hid (Off t p w ((w.setCell ⟨t, i, none⟩ (.int .i64 (y : Int))).setCell ⟨t, k, none⟩ (.int .i64 (x : Int)))) := Lib.hid (((Off.refl _ _ _).set (.inl rfl) _).set (.inl rfl) _)
  clear h1s hx hy h hw hl
  go_enter Try.func21, Try.ntmps21
  go_upto_region 1 with fail
  go_cut [] (fun wx => Hid (Hp A B wx g s p (.slice (some ⟨t, 0, none⟩) m c) n S P (swT T i k) ∧ Off t p w wx))
  case first =>
    go_region
    go_wp2_with fail
    go_meet
    exact ⟨HS.out.drewN 1, HB.out.drewN 1⟩
  case rest =>
    clear HS HB x1 x2 x3 c2 f1 f2 HH
    have hT := swT_len T i k
    obtain ⟨T', hT'⟩ : ∃ T', T' = swT T i k := ⟨_, rfl⟩
    have HP : Hid (swP P T i k = (P.set (T'.getD i 0) (i + 1)).set (T'.getD k 0) (k + 1)) := Lib.hid (by rw [hT']; rfl)
    have e1 : T'.getD i 0 = T.getD k 0 := by rw [hT']; exact swT_l hi hk
    have e2 : T'.getD k 0 = T.getD i 0 := by rw [hT']; exact swT_r hi hk
    have l1 := (HW.out.at_ k hk).1
    have l2 := (HW.out.at_ i hi).1
    rw [← e1] at l1
    rw [← e2] at l2
    rw [← hT'] at hcut hT
    have hTl : T'.length = m := by rw [hT]; exact HL.out
    obtain ⟨a, ha⟩ : ∃ a, a = T'.getD i 0 := ⟨_, rfl⟩
    obtain ⟨b, hb⟩ : ∃ b, b = T'.getD k 0 := ⟨_, rfl⟩
    have HTL := Lib.hid hTl
    have HA := Lib.hid ha
    have HB := Lib.hid hb
    have HT := Lib.hid hT'
    rw [← ha] at l1 HP
    rw [← hb] at l2 HP
    obtain ⟨hp, hbel⟩ := hcut.out
    obtain ⟨W, rfl⟩ : ∃ W : World, W = wc := ⟨_, rfl⟩
    have hp1 := hp.setP a (i + 1)
    have HP1 := Lib.hid hp1
    have HBL : Hid (Off t p w (W.setCell ⟨p, a, none⟩ (.int .i64 ((i + 1 : Nat) : Int)))) := Lib.hid (hbel.set (.inr rfl) _)
    obtain ⟨-, c1, c2, -⟩ := hp.cG
    obtain ⟨x1, -⟩ := hp.cT (i := i) (by rw [HTL.out]; exact hi')
    rw [← HA.out] at x1
    obtain ⟨x2, f2⟩ := hp.cP l1
    obtain ⟨o1, ho1⟩ : ∃ o1, o1 = ((P.getD a 0 : Nat) : Int) := ⟨_, rfl⟩
    rw [← ho1] at x2
    have d1 : (a : Int) < (n : Int) := by omega
    have d2 : 0 ≤ (a : Int) := by omega
    have d3 : (b : Int) < (n : Int) := by omega
    have d4 : 0 ≤ (b : Int) := by omega
    have d5 : (i : Int) + 1 ≤ 1048577 := by omega
    have d6 : (k : Int) + 1 ≤ 1048577 := by omega
    clear ho1 ha hb hT' hT e1 e2 hTl hp hbel hp1 hcut
    go_upto_region 2 with fail
    go_cut [] (fun wx => Hid (Hp A B wx g s p (.slice (some ⟨t, 0, none⟩) m c) n S (P.set a (i + 1)) T' ∧ Off t p w wx))
    case first =>
      go_region
      go_wp2_with fail
      go_meet
      exact ⟨HP1.out.drewN 1, HBL.out.drewN 1⟩
    case rest =>
      clear HP1 HBL x1 x2 f2 c1 c2
      obtain ⟨hp, hbel⟩ := hcut.out
      obtain ⟨W, rfl⟩ : ∃ W : World, W = wc := ⟨_, rfl⟩
      have hp1 := hp.setP b (k + 1)
      rw [← HP.out, HT.out] at hp1
      have HP1 := Lib.hid hp1
      have HBL : Hid (Off t p w (W.setCell ⟨p, b, none⟩ (.int .i64 ((k + 1 : Nat) : Int)))) := Lib.hid (hbel.set (.inr rfl) _)
      obtain ⟨-, c1, c2, -⟩ := hp.cG
      obtain ⟨x1, -⟩ := hp.cT (i := k) (by rw [HTL.out]; exact hk')
      rw [← HB.out] at x1
      obtain ⟨x2, f2⟩ := hp.cP l2
      obtain ⟨o1, ho1⟩ : ∃ o1, o1 = (((P.set a (i + 1)).getD b 0 : Nat) : Int) := ⟨_, rfl⟩
      rw [← ho1] at x2
      clear ho1 hp hbel hp1 hcut
      go_wp2_with fail
      go_region
      go_end0
      exact ⟨rfl, HP1.out.drewN 1, HBL.out.drewN 1⟩
end Go.Proofs.Ytpcpjpcejcgodaa.heap
