/- The walk of rand's Perm. -/
import Derived.Test.YtpagcphebokkmaaG1
import Derived.Test.YtpagcphebokkmaaFnM
import Derived.Test.YtpagcphebokkmaaIb
import Derived.Deep.DeepCutAuto
import Derived.BigRegion
namespace Go.Proofs.Ytpagcphebokkmaa.rnd
open Go.RowKit
open Go.Proofs.Ytpagcphebokkmaa.fns Go.Proofs.Ytpagcphebokkmaa.ints

/-- the cells of a row that is filled so far -/
def rowTo (cs : List Value) (k : Nat) (z : Value) : List Value := cs.take k ++ List.replicate (cs.length - k) z
theorem rowTo_zero (cs : List Value) (z : Value) : rowTo cs 0 z = List.replicate cs.length z := by simp [rowTo]
theorem rowTo_all (cs : List Value) (z : Value) : rowTo cs cs.length z = cs := by simp [rowTo]
theorem rowTo_len (cs : List Value) (k : Nat) (z : Value) (h : k ≤ cs.length) : (rowTo cs k z).length = cs.length := by simp [rowTo]; omega
theorem rowTo_set (cs : List Value) (k : Nat) (z u : Value) (h : cs[k]? = some u) : (rowTo cs k z).set k u = rowTo cs (k + 1) z := by
  have hk : k < cs.length := (List.getElem?_eq_some_iff.1 h).1
  have hu : cs[k] = u := (List.getElem?_eq_some_iff.1 h).2
  unfold rowTo
  have hl : (cs.take k).length = k := by rw [List.length_take]; omega
  rw [List.take_succ_eq_append_getElem hk, (by omega : cs.length - k = (cs.length - (k + 1)) + 1), List.replicate_succ, List.set_append_right _ _ (by omega), hl, hu]
  simp
theorem But.set {g h i : Nat} {w w' : World} (hb : But g w w') (hh : w.heap.size ≤ h) (v : Value) : But g w (w'.setCell ⟨h, i, none⟩ v) := by
  have h1 := (Below.refl h w').setCell (p := ⟨h, i, none⟩) (Nat.le_refl _) v
  exact ⟨h1.os.trans hb.os, h1.tape.trans hb.tape, h1.output.trans hb.output, Nat.le_trans hb.size h1.size, fun k hk hne => (Below.heap_setCell w' ⟨h, i, none⟩ v k (by show k ≠ h; omega)).trans (hb.block k hk hne)⟩
theorem But.drew {g : Nat} {w w' : World} (h : But g w w') : But g w w'.drew := ⟨h.os, h.tape, h.output, h.size, h.block⟩
theorem made_one (z : Value) (n : Nat) : (madeCells #[z] n).toList = List.replicate n z := by
  simp [madeCells, Nat.mod_one, List.map_const']
def icells (l : List Int) : List Value := l.map (Value.int .i64)
theorem icells_len (l : List Int) : (icells l).length = l.length := by simp [icells]
theorem icells_at (l : List Int) {k : Nat} (h : k < l.length) : (icells l)[k]? = some (.int .i64 (l.getD k 0)) := by
  unfold icells; rw [List.getElem?_map, List.getElem?_eq_getElem h]; simp [List.getD, h]
theorem icells_swp (l : List Int) (i j : Nat) : icells (swp l i j) = ((icells l).set i (.int .i64 (l.getD j 0))).set j (.int .i64 (l.getD i 0)) := by
  unfold icells swp; rw [List.map_set, List.map_set]
theorem upTo_at {n k : Nat} (h : k < n) : (icells (upTo n))[k]? = some (.int .i64 (k : Int)) := by
  unfold icells upTo; rw [List.getElem?_map, List.getElem?_map, List.getElem?_range h]; rfl

set_option maxHeartbeats 1600000 in
theorem Perm_any (g : Nat) (s : Int) (n : Nat) (w : World) (h : One w g (.int .u64 s)) (hn : n ≤ 100000) :
    Calls Try.prog 15 #[.pointer (some ⟨g, 0, none⟩), .int .i64 n] w fun e w' => ∃ v, e = .returned v ∧ Ints w' v (permN s n).1 ∧ One w' g (.int .u64 (permN s n).2) ∧ But g w w' := by
  obtain ⟨i0, hi, hz0, hz1, hz2⟩ := info_parts infoInt
  have c1 : decide ((n : Int) < 0) = false := by simp
  have c2 : decide (100000 < (n : Int)) = false := by simp; omega
  have hgl := h.lt
  have HO := Lib.hid h
  have HL := Lib.hid (icells_len (upTo n))
  rw [upTo_len] at HL
  clear h
  go_enter Try.func15, Try.ntmps15
  go_wp2_with (refine wpList_make_full _ rfl (.tmp 20) (.tmp 20) 37 rfl w.heap.size 3 i0 (.int .i64 0) 1 Try.underlying37 hi hz0 hz1 .i64 .i64 _ _ n rfl rfl rfl rfl (by rw [hz2]; omega) (by unfold maxLen; omega) (Nat.le_refl _) ?_)
  intro w1 hown hgrow
  have hb : Below w.heap.size w w1 := (Below.refl _ w).grown hgrow (Nat.le_refl _) (fun k hk => by cases hk)
  rw [show (madeCells #[Value.int IntKind.i64 0] n).toList = rowTo (icells (upTo n)) 0 (.int .i64 0) by rw [rowTo_zero, HL.out]; exact made_one _ _] at hown
  clear hgrow
  go_wp2
  go_loopw [23] (fun i wr => ∃ k : Nat, k ≤ n ∧ i = .int .i64 k ∧ wr.ownsRow w.heap.size 3 1 (.slice (some ⟨w.heap.size, 0, none⟩) n n) n (rowTo (icells (upTo n)) k (.int .i64 0)) ∧ Below w.heap.size w wr) (fun i _ => n - (intOf i).toNat)
  case atStart => exact ⟨0, Nat.zero_le _, rfl, hown, hb⟩
  case round =>
    clear hown hb
    obtain ⟨k, hk, rfl, hown, hb⟩ := hrel
    obtain ⟨wo, rfl⟩ : ∃ wo : World, wo = wr := ⟨_, rfl⟩
    by_cases h1 : k < n
    · have hf := hown.frozenAt k
      have hx := hown.cellAt k (by omega)
      obtain ⟨u, hu⟩ : ∃ u, (rowTo (icells (upTo n)) k (.int .i64 0))[k]? = some u := ⟨_, List.getElem?_eq_getElem (by rw [rowTo_len _ _ _ (by rw [HL.out]; omega), HL.out]; exact h1)⟩
      rw [hu] at hx
      have hst := hown.stored k (.int .i64 k)
      rw [rowTo_set _ k _ _ (upTo_at h1)] at hst
      have HST := Lib.hid hst
      have HB := Lib.hid hb
      clear hown hb hu hst
      go_wp2
      go_roundw
      case rel => exact ⟨k + 1, by omega, by go_num, HST.out.1, HB.out.setCell (p := ⟨w.heap.size, k, none⟩) (Nat.le_refl _) _⟩
      case measure => simp [intOf]; omega
    · obtain rfl : k = n := by omega
      have hown' := hown
      rw [show rowTo (icells (upTo k)) k (.int .i64 0) = icells (upTo k) by have := rowTo_all (icells (upTo k)) (.int .i64 0); rw [HL.out] at this; exact this] at hown'
      have HOW := Lib.hid hown'
      have HG := Lib.hid (HO.out.on hb hgl)
      have HB := Lib.hid (but_of_below (g := g) hb)
      clear hown hb hown' h1 hk
      go_wp2
      go_loopw [33] (fun d wr => ∃ (i j : Nat) (z : Int) (l : List Int), j + i = k - 1 ∧ d = .int .i64 (j : Int) ∧ l.length = k ∧ Hid (shuf i z l = permN s k) ∧ One wr g (.int .u64 z) ∧ But g w wr ∧ wr.ownsRow w.heap.size 3 1 (.slice (some ⟨w.heap.size, 0, none⟩) k k) k (icells l)) (fun d _ => k - (intOf d).toNat)
      case atStart => exact ⟨k - 1, 0, s, upTo k, by omega, rfl, upTo_len k, Lib.hid rfl, HG.out, HB.out, HOW.out⟩
      case round =>
        clear HB HG HOW
        obtain ⟨i, d, z, l, hid, rfl, hl, HS, hone, hbut, hown⟩ := hrel
        obtain ⟨wo, rfl⟩ : ∃ wo : World, wo = wr := ⟨_, rfl⟩
        have HLL := Lib.hid hl
        clear hl
        cases i with
        | zero =>
          have c3 : decide ((d : Int) < (k : Int) - 1) = false := by simp; omega
          have HN := Lib.hid (show permN s k = (l, z) from HS.out.symm)
          have HB := Lib.hid hbut
          have HO1 := Lib.hid hone
          have HW := Lib.hid hown
          clear hbut hone hown
          go_wp2
          go_ret
          refine ⟨_, rfl, ?_, ?_, HB.out⟩
          · rw [HN.out]
            exact ints_of_owned (B := w.heap.size) (by rw [HLL.out]; exact HW.out)
          · rw [HN.out]; exact HO1.out
        | succ i =>
          have c3 : decide ((d : Int) < (k : Int) - 1) = true := by simp; omega
          have hk1 : i + 1 < k := by omega
          obtain ⟨j, hj, hjlt⟩ := blw_nat z (i + 2) (by omega) (by omega)
          obtain ⟨m, hm⟩ : ∃ m, m = i + 1 := ⟨_, rfl⟩
          have hS := (shuf_step (l := l) hj).symm.trans HS.out
          rw [← hm] at hS
          have HS2 := Lib.hid hS
          have HB := Lib.hid hbut
          have HW := Lib.hid hown
          have HO1 := Lib.hid hone
          have HJ := Lib.hid hj
          have e1 : (k : Int) - 1 - (d : Int) + 1 = ((i + 2 : Nat) : Int) := by omega
          have e2 : (k : Int) - 1 - (d : Int) = (m : Int) := by omega
          have E1 := Lib.hid e1
          have E2 := Lib.hid e2
          have HM := Lib.hid hm
          rw [← hm] at hid hk1
          replace hjlt : j < m + 1 := by omega
          clear hbut hown hone hj HS hS e1 e2 hm
          go_wp2_with fail
          rw [E1.out, E2.out]
          go_at_call 11; refine (Below_any _ _ _ _ HO1.out (by omega) (by have := HM.out; omega)).mono ?_; rintro e w2 ⟨rfl, hw2⟩
          rw [HJ.out]
          have ho2 : One w2 g (.int .u64 (nxt z)) := hw2 ▸ HO1.out.set
          have hb2 : But g w w2 := HB.out.trans (hw2 ▸ but_set wo _)
          have hr2 : w2.ownsRow w.heap.size 3 1 (.slice (some ⟨w.heap.size, 0, none⟩) k k) k (icells l) := hw2 ▸ ownsRow_setCell_below HW.out hgl _
          clear hw2
          have HO2 := Lib.hid ho2
          have HB2 := Lib.hid hb2
          have HR2 := Lib.hid hr2
          have hmk : m < k := by omega
          have hjk : j < k := by omega
          have x1 : w2.cell? ⟨w.heap.size, m, none⟩ = some (.int .i64 (l.getD m 0)) := by rw [hr2.cellAt m (by omega), icells_at l (by rw [HLL.out]; exact hmk)]
          have x2 : w2.cell? ⟨w.heap.size, j, none⟩ = some (.int .i64 (l.getD j 0)) := by rw [hr2.cellAt j (by omega), icells_at l (by rw [HLL.out]; exact hjk)]
          have f1 := hr2.frozenAt m
          have f2 := hr2.frozenAt j
          have b1 : (m : Int) < (k : Int) := by omega
          have b2 : (j : Int) < (k : Int) := by omega
          have b3 : 0 ≤ (m : Int) := by omega
          have b4 : 0 ≤ (j : Int) := by omega
          obtain ⟨p, hp⟩ : ∃ p, p = l.getD m 0 := ⟨_, rfl⟩
          obtain ⟨q, hq⟩ : ∃ q, q = l.getD j 0 := ⟨_, rfl⟩
          rw [← hp] at x1
          rw [← hq] at x2
          have HP := Lib.hid hp
          have HQ := Lib.hid hq
          have hst : ((w2.setCell ⟨w.heap.size, m, none⟩ (.int .i64 q)).setCell ⟨w.heap.size, j, none⟩ (.int .i64 p)).ownsRow w.heap.size 3 1 (.slice (some ⟨w.heap.size, 0, none⟩) k k) k (icells (swp l m j)) := by
            rw [icells_swp, ← hp, ← hq]
            exact ((hr2.stored m (.int .i64 q)).1.stored j (.int .i64 p)).1
          have HST := Lib.hid hst
          have HBS := Lib.hid ((hb2.set (h := w.heap.size) (i := m) (Nat.le_refl _) (.int .i64 q)).set (h := w.heap.size) (i := j) (Nat.le_refl _) (.int .i64 p))
          have h1s := (hr2.stored m (.int .i64 q)).1
          obtain ⟨u1, x3⟩ : ∃ u, (w2.setCell ⟨w.heap.size, m, none⟩ (.int .i64 q)).cell? ⟨w.heap.size, j, none⟩ = some u :=
            ⟨((icells l).set m (.int .i64 q))[j]'(by rw [List.length_set, icells_len, HLL.out]; exact hjk), by rw [h1s.cellAt j (by omega)]; exact List.getElem?_eq_getElem _⟩
          clear h1s
          clear ho2 hb2 hr2 hp hq hst
          go_wp2_with fail
          go_region
          go_wp2_with fail
          go_roundw
          case rel => exact ⟨i, d + 1, nxt z, swp l m j, by have := HM.out; omega, by go_num, by rw [swp_len]; exact HLL.out, Lib.hid HS2.out, (HO2.out.other (by omega) _).other (by omega) _, HBS.out.drew, HST.out⟩
          case measure => simp [intOf]; omega
end Go.Proofs.Ytpagcphebokkmaa.rnd
