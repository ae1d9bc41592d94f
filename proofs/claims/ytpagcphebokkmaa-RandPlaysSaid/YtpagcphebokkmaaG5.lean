/- The walk of the statement on two of one seed. -/
import Derived.Test.YtpagcphebokkmaaG4
namespace Go.Proofs.Ytpagcphebokkmaa.rnd
open Go.RowKit
open Go.Proofs.Ytpagcphebokkmaa.fns Go.Proofs.Ytpagcphebokkmaa.ints

theorem ints_but {w w' : World} {v : Value} {zs : List Int} {g : Nat} {s : Int} (h : Ints w v zs) (ho : One w g (.int .u64 s)) (hb : But g w w') : Ints w' v zs := by
  obtain ⟨a, cap, hv, h1, h2, h3⟩ := h
  refine ⟨a, cap, hv, h1, h2, fun hp => ?_⟩
  obtain ⟨b, off, ha, hlt, hc⟩ := h3 hp
  have hne : b ≠ g := by
    rintro rfl
    obtain ⟨t, ht⟩ := ho
    have h0 := hc 0 hp
    rw [Joins.cell_of_block ht] at h0
    cases off with
    | zero => simp at h0
    | succ k => simp at h0
  exact ⟨b, off, ha, Nat.lt_of_lt_of_le hlt hb.size, fun i hi => (World.cell?_of_block (w := w) (a := ⟨b, off + i, none⟩) (hb.block b hlt hne)).trans (hc i hi)⟩
theorem infoBool : (Try.prog.info? 4).map (fun i => (i.zero, i.size, i.bytes)) = some (some (.bool false), 1, 1) := by kernel_rfl
def bcells (l : List Bool) : List Value := l.map Value.bool
theorem bcells_at {l : List Bool} {k : Nat} {b : Bool} (h : l[k]? = some b) : (bcells l)[k]? = some (.bool b) := by unfold bcells; rw [List.getElem?_map, h]; rfl
theorem bcells_set (l : List Bool) (k : Nat) (b : Bool) : (bcells l).set k (.bool b) = bcells (l.set k b) := by unfold bcells; rw [List.map_set]
theorem getD_get {l : List Int} {k : Nat} (h : k < l.length) : l.getD k 0 = l[k] := by simp [List.getD, h]

theorem perms_bad (s n : Int) (w : World) (hn : n < 0 ∨ 100000 < n) :
    Calls Try.prog 4 #[.int .u64 s, .int .i64 n] w fun e w' => e = .returned (.bool true) ∧ Below w.heap.size w w' := by
  have hn' := hn
  rcases hn with hn | hn
  · have c1 : decide (500 < n) = false := by simp; omega
    go_enter Try.func4, Try.ntmps4
    go_wp2_with fail
    go_at_call 6; refine (New_any _ _).mono ?_; rintro e w' ⟨rfl, rfl⟩
    go_wp2_with fail
    go_at_call 6; refine (New_any _ _).mono ?_; rintro e w' ⟨rfl, rfl⟩
    go_wp2_with fail
    go_at_call 15; refine (Perm_none _ _ _ hn').mono ?_; rintro e w' ⟨rfl, rfl⟩
    go_wp2_with fail
    go_at_call 15; refine (Perm_none _ _ _ hn').mono ?_; rintro e w' ⟨rfl, rfl⟩
    go_wp2_with fail
    go_at_call 7; refine (lives_any _).mono ?_; rintro e w' ⟨rfl, hb⟩
    go_wp2_with fail
    go_ret
    exact ⟨rfl, (Joins.below_alloc2 w _ _).trans (hb.mono (by simp; omega))⟩
  · have c1 : decide (500 < n) = true := by simp; omega
    have c2 : decide (n ≤ 100000) = false := by simp; omega
    have c3 : decide (n < 0) = false := by simp; omega
    go_enter Try.func4, Try.ntmps4
    go_wp2_with fail
    go_at_call 6; refine (New_any _ _).mono ?_; rintro e w' ⟨rfl, rfl⟩
    go_wp2_with fail
    go_at_call 6; refine (New_any _ _).mono ?_; rintro e w' ⟨rfl, rfl⟩
    go_wp2_with fail
    go_at_call 15; refine (Perm_none _ _ _ hn').mono ?_; rintro e w' ⟨rfl, rfl⟩
    go_wp2_with fail
    go_at_call 15; refine (Perm_none _ _ _ hn').mono ?_; rintro e w' ⟨rfl, rfl⟩
    go_wp2_with fail
    go_at_call 7; refine (lives_any _).mono ?_; rintro e w' ⟨rfl, hb⟩
    go_wp2_with fail
    go_ret
    exact ⟨rfl, (Joins.below_alloc2 w _ _).trans (hb.mono (by simp; omega))⟩

set_option maxHeartbeats 1600000 in
theorem perms_small (s : Int) (m : Nat) (w : World) (hm : m ≤ 500) :
    Calls Try.prog 4 #[.int .u64 s, .int .i64 m] w fun e w' => e = .returned (.bool true) ∧ Below w.heap.size w w' := by
  obtain ⟨i0, hi, hz0, hz1, hz2⟩ := info_parts infoBool
  have c1 : decide (500 < (m : Int)) = false := by simp; omega
  have d1 : decide ((m : Int) < 0) = false := by simp
  have d2 : decide (100000 < (m : Int)) = false := by simp; omega
  obtain ⟨l, hl⟩ : ∃ l, l = (permN s m).1 := ⟨_, rfl⟩
  obtain ⟨z, hz⟩ : ∃ z, z = (permN s m).2 := ⟨_, rfl⟩
  have hlen : l.length = m := by rw [hl]; exact permN_len s m
  have hnd : l.Nodup := by rw [hl]; exact permN_nodup s m (by omega)
  have hin : ∀ x ∈ l, 0 ≤ x ∧ x < (m : Int) := fun x hx => permN_in s m (by omega) (hl ▸ hx)
  have HL := Lib.hid hlen
  have HND := Lib.hid hnd
  have HIN := Lib.hid hin
  have HP := fun (g : Nat) (wx : World) (h : One wx g (.int .u64 s)) => Perm_any g s m wx h (by omega)
  rw [← hl, ← hz] at HP
  have HPP := Lib.hid HP
  clear hlen hnd hin hl hz HP
  go_enter Try.func4, Try.ntmps4
  go_wp2_with fail
  go_at_call 6; refine (New_any _ _).mono ?_; rintro e w' ⟨rfl, rfl⟩
  go_wp2_with fail
  go_at_call 6; refine (New_any _ _).mono ?_; rintro e w' ⟨rfl, rfl⟩
  obtain ⟨w0, hw0⟩ : ∃ w0, w0 = (w.alloc (.cells #[.int .u64 s] 48)).alloc (.cells #[.int .u64 s] 48) := ⟨_, rfl⟩
  have A0 : One w0 w.heap.size (.int .u64 s) := by rw [hw0]; exact (one_new _ _ _).alloc _
  have A1 : One w0 (w.heap.size + 1) (.int .u64 s) := by rw [hw0]; exact one_at _ _ _ _ (by simp)
  have hb0 : Below w.heap.size w w0 := by rw [hw0]; exact Joins.below_alloc2 w _ _
  have hs0 : w0.heap.size = w.heap.size + 2 := by rw [hw0]; simp
  rw [← hw0]
  clear hw0
  have H0 := Lib.hid A0
  have H1 := Lib.hid A1
  have HB := Lib.hid hb0
  clear A0 A1 hb0
  go_wp2_with fail
  go_at_call 15; refine (HPP.out w.heap.size w0 H0.out).mono ?_; rintro e w1 ⟨v1, rfl, hI1, hO1, hB1⟩
  have hs1 := hB1.size
  have A1 := hB1.one H1.out (by omega)
  have hb1 := HB.out.trans (hB1.below (Nat.le_refl _) (by omega))
  have K1 := Lib.hid hI1
  have K2 := Lib.hid hO1
  have K3 := Lib.hid A1
  have K4 := Lib.hid hb1
  clear hI1 hO1 A1 hb1 hB1 H0 H1 HB
  go_wp2_with fail
  go_at_call 15; refine (HPP.out (w.heap.size + 1) w1 K3.out).mono ?_; rintro e w2 ⟨v2, rfl, hI2, hO2, hB2⟩
  have hs2 := hB2.size
  have J1 := Lib.hid (ints_but K1.out K3.out hB2)
  have J2 := Lib.hid hI2
  have J3 := Lib.hid (hB2.one K2.out (by omega))
  have J4 := Lib.hid hO2
  have J5 := Lib.hid (K4.out.trans (hB2.below (by omega) (by omega)))
  clear hI2 hO2 hB2 K1 K2 K3 K4
  have hJ1 := J1.out
  obtain ⟨a, cap, rfl, hc1, hc2, hcell⟩ := hJ1
  have hJ2 := J2.out
  obtain ⟨a2, cap2, rfl, -, hc4, -⟩ := hJ2
  unfold maxLen at hc2 hc4
  rw [HL.out] at J1 J2 hc1 ⊢
  have HC := Lib.hid hcell
  clear hcell
  go_wp2_with (refine wpList_make_full _ rfl (.tmp 53) (.tmp 53) 44 rfl w2.heap.size 4 i0 (.bool false) 1 Try.underlying44 hi hz0 hz1 .i64 .i64 _ _ m rfl rfl rfl rfl (by rw [hz2]; omega) (by unfold maxLen; omega) (Nat.le_refl _) ?_)
  intro w3 hown hgrow
  have hb : Below w2.heap.size w2 w3 := (Below.refl _ w2).grown hgrow (Nat.le_refl _) (fun k hk => by cases hk)
  rw [show (madeCells #[Value.bool false] m).toList = bcells (seenTo l m 0) by rw [seenTo_zero, made_one]; simp [bcells]] at hown
  clear hgrow
  go_wp2
  go_loopw [57] (fun i wr => ∃ k : Nat, k ≤ m ∧ i = .int .i64 k ∧ wr.ownsRow w2.heap.size 4 1 (.slice (some ⟨w2.heap.size, 0, none⟩) m m) m (bcells (seenTo l m k)) ∧ Below w2.heap.size w2 wr) (fun i _ => m - (intOf i).toNat)
  case atStart => exact ⟨0, Nat.zero_le _, rfl, hown, hb⟩
  case round =>
    clear hown hb
    obtain ⟨k, hk, rfl, hown, hb⟩ := hrel
    obtain ⟨wo, rfl⟩ : ∃ wo : World, wo = wr := ⟨_, rfl⟩
    have HO := Lib.hid hown
    have HBo := Lib.hid hb
    clear hb
    by_cases h1 : k < m
    · have h1' := h1
      rw [← HL.out] at h1'
      obtain ⟨b, off, rfl, hlt, hcs⟩ := HC.out (by omega)
      have hck := (HBo.out.cell (p := ⟨b, off + k, none⟩) hlt).trans (hcs k h1')
      have hx := HIN.out l[k] (List.getElem_mem h1')
      obtain ⟨x, hxx⟩ := Int.eq_ofNat_of_zero_le hx.1
      rw [getD_get h1', hxx] at hck
      rw [hxx] at hx
      have hxm : x < m := by omega
      have g1 : decide ((x : Int) < 0) = false := by simp
      have g2 : decide ((m : Int) ≤ (x : Int)) = false := by simp; omega
      have g3 : (x : Int) < (m : Int) := by omega
      have hxc := hown.cellAt x (by omega)
      rw [bcells_at (seenTo_new HND.out h1' hxx hxm)] at hxc
      have hf := hown.frozenAt x
      have hst := (hown.stored x (.bool true)).1
      rw [bcells_set, seenTo_set h1' hxx] at hst
      have HST := Lib.hid hst
      clear hst hcs hown hxx hx h1'
      go_wp2
      go_roundw
      case rel => exact ⟨k + 1, by omega, by go_num, HST.out, HBo.out.setCell (p := ⟨w2.heap.size, x, none⟩) (Nat.le_refl _) _⟩
      case measure => simp [intOf]; omega
    · obtain rfl : k = m := by omega
      have M1 := Lib.hid (J1.out.on HBo.out)
      have M2 := Lib.hid (J2.out.on HBo.out)
      have M3 := Lib.hid (J3.out.on HBo.out J3.out.lt)
      have M4 := Lib.hid (J4.out.on HBo.out J4.out.lt)
      have M5 := Lib.hid (J5.out.trans (HBo.out.mono (by omega)))
      clear hown HO HBo J1 J2 J3 J4 J5 HC h1 hk
      go_wp2_with fail
      go_at_call 14; refine (refInts_same rfl M1.out M2.out).mono ?_; rintro e w4 ⟨rfl, hb4⟩
      have hs4 := hb4.size
      have hsM := M5.out.size
      have N3 := Lib.hid (M3.out.on hb4 M3.out.lt)
      have N4 := Lib.hid (M4.out.on hb4 M4.out.lt)
      have N5 := Lib.hid (M5.out.trans (hb4.mono hsM))
      clear M1 M2 M3 M4 M5 hb4
      go_wp2_with fail
      go_at_call 9; refine (Next_any _ _ _ N3.out).mono ?_; rintro e w5 ⟨rfl, hw5⟩
      have L4 := Lib.hid (show One w5 (w.heap.size + 1) (.int .u64 z) by rw [hw5]; exact N4.out.other (by omega) _)
      have L5 := Lib.hid (show Below w.heap.size w w5 by rw [hw5]; exact N5.out.setCell (Nat.le_refl _) _)
      clear hw5 N3 N4 N5
      go_wp2_with fail
      go_at_call 9; refine (Next_any _ _ _ L4.out).mono ?_; rintro e w6 ⟨rfl, hw6⟩
      have R5 := Lib.hid (show Below w.heap.size w w6 by rw [hw6]; exact L5.out.setCell (by simp) _)
      clear hw6 L4 L5
      go_wp2_with fail
      go_at_call 7; refine (lives_any _).mono ?_; rintro e w7 ⟨rfl, hb7⟩
      have T5 := Lib.hid (R5.out.trans (hb7.mono R5.out.size))
      clear hb7 R5
      go_wp2_with fail
      go_ret
      exact ⟨rfl, T5.out⟩

set_option maxHeartbeats 1600000 in
theorem perms_big (s : Int) (n : Int) (m : Nat) (w : World) (h1 : 500 < n) (h2 : n ≤ 100000) (he : n % 500 = (m : Int)) (hm : m ≤ 500) :
    Calls Try.prog 4 #[.int .u64 s, .int .i64 n] w fun e w' => e = .returned (.bool true) ∧ Below w.heap.size w w' := by
  obtain ⟨i0, hi, hz0, hz1, hz2⟩ := info_parts infoBool
  have c1 : decide (500 < n) = true := by simp; omega
  have c2 : decide (n ≤ 100000) = true := by simp; omega
  have HE := Lib.hid he
  clear he
  have d1 : decide ((m : Int) < 0) = false := by simp
  have d2 : decide (100000 < (m : Int)) = false := by simp; omega
  obtain ⟨l, hl⟩ : ∃ l, l = (permN s m).1 := ⟨_, rfl⟩
  obtain ⟨z, hz⟩ : ∃ z, z = (permN s m).2 := ⟨_, rfl⟩
  have hlen : l.length = m := by rw [hl]; exact permN_len s m
  have hnd : l.Nodup := by rw [hl]; exact permN_nodup s m (by omega)
  have hin : ∀ x ∈ l, 0 ≤ x ∧ x < (m : Int) := fun x hx => permN_in s m (by omega) (hl ▸ hx)
  have HL := Lib.hid hlen
  have HND := Lib.hid hnd
  have HIN := Lib.hid hin
  have HP := fun (g : Nat) (wx : World) (h : One wx g (.int .u64 s)) => Perm_any g s m wx h (by omega)
  rw [← hl, ← hz] at HP
  have HPP := Lib.hid HP
  clear hlen hnd hin hl hz HP
  go_enter Try.func4, Try.ntmps4
  go_wp2_with fail
  rw [HE.out]
  go_at_call 6; refine (New_any _ _).mono ?_; rintro e w' ⟨rfl, rfl⟩
  go_wp2_with fail
  go_at_call 6; refine (New_any _ _).mono ?_; rintro e w' ⟨rfl, rfl⟩
  obtain ⟨w0, hw0⟩ : ∃ w0, w0 = (w.alloc (.cells #[.int .u64 s] 48)).alloc (.cells #[.int .u64 s] 48) := ⟨_, rfl⟩
  have A0 : One w0 w.heap.size (.int .u64 s) := by rw [hw0]; exact (one_new _ _ _).alloc _
  have A1 : One w0 (w.heap.size + 1) (.int .u64 s) := by rw [hw0]; exact one_at _ _ _ _ (by simp)
  have hb0 : Below w.heap.size w w0 := by rw [hw0]; exact Joins.below_alloc2 w _ _
  have hs0 : w0.heap.size = w.heap.size + 2 := by rw [hw0]; simp
  rw [← hw0]
  clear hw0
  have H0 := Lib.hid A0
  have H1 := Lib.hid A1
  have HB := Lib.hid hb0
  clear A0 A1 hb0
  go_wp2_with fail
  go_at_call 15; refine (HPP.out w.heap.size w0 H0.out).mono ?_; rintro e w1 ⟨v1, rfl, hI1, hO1, hB1⟩
  have hs1 := hB1.size
  have A1 := hB1.one H1.out (by omega)
  have hb1 := HB.out.trans (hB1.below (Nat.le_refl _) (by omega))
  have K1 := Lib.hid hI1
  have K2 := Lib.hid hO1
  have K3 := Lib.hid A1
  have K4 := Lib.hid hb1
  clear hI1 hO1 A1 hb1 hB1 H0 H1 HB
  go_wp2_with fail
  go_at_call 15; refine (HPP.out (w.heap.size + 1) w1 K3.out).mono ?_; rintro e w2 ⟨v2, rfl, hI2, hO2, hB2⟩
  have hs2 := hB2.size
  have J1 := Lib.hid (ints_but K1.out K3.out hB2)
  have J2 := Lib.hid hI2
  have J3 := Lib.hid (hB2.one K2.out (by omega))
  have J4 := Lib.hid hO2
  have J5 := Lib.hid (K4.out.trans (hB2.below (by omega) (by omega)))
  clear hI2 hO2 hB2 K1 K2 K3 K4
  have hJ1 := J1.out
  obtain ⟨a, cap, rfl, hc1, hc2, hcell⟩ := hJ1
  have hJ2 := J2.out
  obtain ⟨a2, cap2, rfl, -, hc4, -⟩ := hJ2
  unfold maxLen at hc2 hc4
  rw [HL.out] at J1 J2 hc1 ⊢
  have HC := Lib.hid hcell
  clear hcell
  go_wp2_with (refine wpList_make_full _ rfl (.tmp 53) (.tmp 53) 44 rfl w2.heap.size 4 i0 (.bool false) 1 Try.underlying44 hi hz0 hz1 .i64 .i64 _ _ m rfl rfl rfl rfl (by rw [hz2]; omega) (by unfold maxLen; omega) (Nat.le_refl _) ?_)
  intro w3 hown hgrow
  have hb : Below w2.heap.size w2 w3 := (Below.refl _ w2).grown hgrow (Nat.le_refl _) (fun k hk => by cases hk)
  rw [show (madeCells #[Value.bool false] m).toList = bcells (seenTo l m 0) by rw [seenTo_zero, made_one]; simp [bcells]] at hown
  clear hgrow
  go_wp2
  go_loopw [57] (fun i wr => ∃ k : Nat, k ≤ m ∧ i = .int .i64 k ∧ wr.ownsRow w2.heap.size 4 1 (.slice (some ⟨w2.heap.size, 0, none⟩) m m) m (bcells (seenTo l m k)) ∧ Below w2.heap.size w2 wr) (fun i _ => m - (intOf i).toNat)
  case atStart => exact ⟨0, Nat.zero_le _, rfl, hown, hb⟩
  case round =>
    clear hown hb
    obtain ⟨k, hk, rfl, hown, hb⟩ := hrel
    obtain ⟨wo, rfl⟩ : ∃ wo : World, wo = wr := ⟨_, rfl⟩
    have HO := Lib.hid hown
    have HBo := Lib.hid hb
    clear hb
    by_cases h1 : k < m
    · have h1' := h1
      rw [← HL.out] at h1'
      obtain ⟨b, off, rfl, hlt, hcs⟩ := HC.out (by omega)
      have hck := (HBo.out.cell (p := ⟨b, off + k, none⟩) hlt).trans (hcs k h1')
      have hx := HIN.out l[k] (List.getElem_mem h1')
      obtain ⟨x, hxx⟩ := Int.eq_ofNat_of_zero_le hx.1
      rw [getD_get h1', hxx] at hck
      rw [hxx] at hx
      have hxm : x < m := by omega
      have g1 : decide ((x : Int) < 0) = false := by simp
      have g2 : decide ((m : Int) ≤ (x : Int)) = false := by simp; omega
      have g3 : (x : Int) < (m : Int) := by omega
      have hxc := hown.cellAt x (by omega)
      rw [bcells_at (seenTo_new HND.out h1' hxx hxm)] at hxc
      have hf := hown.frozenAt x
      have hst := (hown.stored x (.bool true)).1
      rw [bcells_set, seenTo_set h1' hxx] at hst
      have HST := Lib.hid hst
      clear hst hcs hown hxx hx h1'
      go_wp2
      go_roundw
      case rel => exact ⟨k + 1, by omega, by go_num, HST.out, HBo.out.setCell (p := ⟨w2.heap.size, x, none⟩) (Nat.le_refl _) _⟩
      case measure => simp [intOf]; omega
    · obtain rfl : k = m := by omega
      have M1 := Lib.hid (J1.out.on HBo.out)
      have M2 := Lib.hid (J2.out.on HBo.out)
      have M3 := Lib.hid (J3.out.on HBo.out J3.out.lt)
      have M4 := Lib.hid (J4.out.on HBo.out J4.out.lt)
      have M5 := Lib.hid (J5.out.trans (HBo.out.mono (by omega)))
      clear hown HO HBo J1 J2 J3 J4 J5 HC h1 hk
      go_wp2_with fail
      go_at_call 14; refine (refInts_same rfl M1.out M2.out).mono ?_; rintro e w4 ⟨rfl, hb4⟩
      have hs4 := hb4.size
      have hsM := M5.out.size
      have N3 := Lib.hid (M3.out.on hb4 M3.out.lt)
      have N4 := Lib.hid (M4.out.on hb4 M4.out.lt)
      have N5 := Lib.hid (M5.out.trans (hb4.mono hsM))
      clear M1 M2 M3 M4 M5 hb4
      go_wp2_with fail
      go_at_call 9; refine (Next_any _ _ _ N3.out).mono ?_; rintro e w5 ⟨rfl, hw5⟩
      have L4 := Lib.hid (show One w5 (w.heap.size + 1) (.int .u64 z) by rw [hw5]; exact N4.out.other (by omega) _)
      have L5 := Lib.hid (show Below w.heap.size w w5 by rw [hw5]; exact N5.out.setCell (Nat.le_refl _) _)
      clear hw5 N3 N4 N5
      go_wp2_with fail
      go_at_call 9; refine (Next_any _ _ _ L4.out).mono ?_; rintro e w6 ⟨rfl, hw6⟩
      have R5 := Lib.hid (show Below w.heap.size w w6 by rw [hw6]; exact L5.out.setCell (by simp) _)
      clear hw6 L4 L5
      go_wp2_with fail
      go_at_call 7; refine (lives_any _).mono ?_; rintro e w7 ⟨rfl, hb7⟩
      have T5 := Lib.hid (R5.out.trans (hb7.mono R5.out.size))
      clear hb7 R5
      go_wp2_with fail
      go_ret
      exact ⟨rfl, T5.out⟩

theorem perms_walk (s n : Int) (w : World) :
    Calls Try.prog 4 #[.int .u64 s, .int .i64 n] w fun e w' => e = .returned (.bool true) ∧ Below w.heap.size w w' := by
  by_cases h1 : n < 0 ∨ 100000 < n
  · exact perms_bad s n w h1
  · by_cases h2 : n ≤ 500
    · obtain ⟨m, rfl⟩ := Int.eq_ofNat_of_zero_le (show 0 ≤ n by omega)
      exact perms_small s m w (by omega)
    · obtain ⟨m, hm⟩ := Int.eq_ofNat_of_zero_le (show 0 ≤ n % 500 by omega)
      exact perms_big s n m w (by omega) (by omega) hm (by omega)
end Go.Proofs.Ytpagcphebokkmaa.rnd
