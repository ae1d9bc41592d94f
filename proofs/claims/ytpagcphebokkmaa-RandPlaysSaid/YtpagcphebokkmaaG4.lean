/- The walk of the document's Perm. -/
import Derived.Test.YtpagcphebokkmaaG2
import Derived.Test.YtpagcphebokkmaaG3
namespace Go.Proofs.Ytpagcphebokkmaa.rnd
open Go.RowKit
open Go.Proofs.Ytpagcphebokkmaa.fns Go.Proofs.Ytpagcphebokkmaa.ints

theorem news1 (w : World) (x : Value) (t : TypeId) : ∀ j u, ([x] : List Value)[j]? = some u → (w.alloc (.cells #[x] t)).cell? ((⟨w.heap.size, 0, none⟩ : Addr).add j) = some u := by
  intro j u hj
  match j, hj with
  | 0, hj => simp at hj; subst hj; simp [Addr.add]
theorem one_cell (k : IntKind) (n : Int) : ∀ u ∈ ([.int k n] : List Value), u.oneCell' = true := by
  intro u hu; simp at hu; subst hu; rfl
theorem icells_snoc (k : Nat) : icells (upTo k) ++ [Value.int .i64 (k : Int)] = icells (upTo (k + 1)) := by
  rw [upTo_snoc]; simp [icells]
theorem permRet {v : Value} {s : Int} {r : List Int × Int} (h : r.2 = s) : Ending.returned (.tuple #[v, .agg #[.int .u64 s]]) = .returned (.tuple #[v, .agg #[.int .u64 r.2]]) := by rw [h]

theorem refPerm_no (s n : Int) (w : World) (hn : n < 0 ∨ 100000 < n) :
    Calls Try.prog 13 #[.agg #[.int .u64 s], .int .i64 n] w fun e w' => ∃ v, e = .returned (.tuple #[v, .agg #[.int .u64 s]]) ∧ Ints w' v [] ∧ Below w.heap.size w w' := by
  have HI : ∀ wx, Hid (Ints wx (.slice (some ⟨w.heap.size + 2, 0, none⟩) 0 0) []) := fun wx => Lib.hid (ints_empty _ _ _ (by unfold maxLen; omega))
  rcases hn with hn | hn
  · go_enter Try.func13, Try.ntmps13
    go_wp2_with fail
    go_region
    go_wp2_with fail
    refine bodyPost_ret (v := .tuple #[.slice (some ⟨w.heap.size + 2, 0, none⟩) 0 0, .agg #[.int .u64 s]]) (by simp [results, Try.results13, go_sem]) rfl ⟨_, rfl, (HI _).out, ?_⟩
    repeat (first | exact Below.refl _ _ | refine Below.drew ?_ | refine Below.setCell ?_ (by simp) _ | refine Below.alloc ?_ (by simp <;> omega) _)
  · have c1 : decide (n < 0) = false := by simp; omega
    go_enter Try.func13, Try.ntmps13
    go_wp2_with fail
    go_region
    go_wp2_with fail
    refine bodyPost_ret (v := .tuple #[.slice (some ⟨w.heap.size + 2, 0, none⟩) 0 0, .agg #[.int .u64 s]]) (by simp [results, Try.results13, go_sem]) rfl ⟨_, rfl, (HI _).out, ?_⟩
    repeat (first | exact Below.refl _ _ | refine Below.drew ?_ | refine Below.setCell ?_ (by simp) _ | refine Below.alloc ?_ (by simp <;> omega) _)

theorem own_below {B : Nat} {e : TypeId} {k : Nat} {v : Value} {n : Nat} {xs : List Value} {w w' : World} (h : w.ownsRow B e k v n xs) (hb : Below w.heap.size w w') : w'.ownsRow B e k v n xs := by
  refine ⟨h.1, ?_⟩
  rcases h.2 with h0 | ⟨g, cap, cur, e1, e2, e3, e4⟩
  · exact .inl h0
  · exact .inr ⟨g, cap, cur, e1, e2, (hb.block g (Array.getElem?_eq_some_iff.1 e3).1).trans e3, e4⟩
set_option maxHeartbeats 1600000 in
theorem refPerm_any (s : Int) (n : Nat) (w : World) (hn : n ≤ 100000) :
    Calls Try.prog 13 #[.agg #[.int .u64 s], .int .i64 n] w fun e w' => ∃ v, e = .returned (.tuple #[v, .agg #[.int .u64 (permN s n).2]]) ∧ Ints w' v (permN s n).1 ∧ Below w.heap.size w w' := by
  obtain ⟨i0, hi, hz0, hz1, hz2⟩ := info_parts infoInt
  have c1 : decide ((n : Int) < 0) = false := by simp
  have c2 : decide (100000 < (n : Int)) = false := by simp; omega
  go_enter Try.func13, Try.ntmps13
  go_wp2
  obtain ⟨w0, hw0⟩ : ∃ w0, w0 = (w.alloc (.cells #[.int .u64 s] 27)).alloc (.cells #[.int .u64 0] 27) := ⟨_, rfl⟩
  have hsz : w0.heap.size = w.heap.size + 2 := by rw [hw0]; simp
  have A0 : One w0 w.heap.size (.int .u64 s) := by rw [hw0]; exact (one_new _ _ _).alloc _
  have A1 : One w0 (w.heap.size + 1) (.int .u64 0) := by rw [hw0]; exact one_at _ _ _ _ (by simp)
  have hb0 : Below w.heap.size w w0 := by rw [hw0]; exact Joins.below_alloc2 w _ _
  have H0 : (w0.alloc (.cells #[] 3)).ownsRow (w.heap.size + 2) 3 1 (.slice (some ⟨w.heap.size + 2, 0, none⟩) 0 0) 0 [] := by
    rw [← hsz]; exact World.ownsRow_made _ #[] 0 (Nat.le_refl _) (by unfold maxLen; omega) rfl
  rw [← hw0]
  have HA0 := Lib.hid A0
  have HA1 := Lib.hid A1
  have HB0 := Lib.hid hb0
  have HS := Lib.hid hsz
  have hsz2 : w.heap.size + 2 ≤ w0.heap.size := by omega
  have hb1 : Below (w.heap.size + 2) w0 (w0.alloc (.cells #[] 3)) := (Below.refl _ _).alloc hsz2 _
  clear A0 A1 hb0 hw0 hsz
  go_loopw [6, 7] (fun v i wr => ∃ k : Nat, k ≤ n ∧ i = .int .i64 k ∧ wr.ownsRow (w.heap.size + 2) 3 1 v k (icells (upTo k)) ∧ v ≠ .slice none 0 0 ∧ Below (w.heap.size + 2) w0 wr) (fun _ i _ => n - (intOf i).toNat)
  case atStart => exact ⟨0, Nat.zero_le _, rfl, H0, by simp, hb1⟩
  case round =>
    clear H0 hb1
    obtain ⟨k, hk, rfl, hown, hne, hb⟩ := hrel
    obtain ⟨wo, rfl⟩ : ∃ wo : World, wo = wr := ⟨_, rfl⟩
    have hbs := hb.size
    obtain ⟨g2, cp2, rfl, hh1, hh2, hh3, hh4, -, -⟩ := Lib.holds_of_ownsRow hown hne
    unfold maxLen at hh4
    have HR := Lib.hid hown
    have HB := Lib.hid hb
    clear hown hb hne
    by_cases h1 : k < n
    · go_wp2_with (at_builtin; refine wpList_append_own _ rfl (.tmp 25) (.tmp 27) 37 rfl (w.heap.size + 2) 3 i0 (.int .i64 0) 1 8 Try.underlying37 hi hz0 hz1 hz2 rfl (by decide) _ _ _ rfl (World.ownsRow.alloc HR.out _) ⟨wo.heap.size, 0, none⟩ 1 1 [.int .i64 (k : Int)] rfl rfl (news1 wo _ _) (one_cell _ _) (by unfold maxLen; omega) (by omega) (by simp; omega) ?_)
      intro v' w1 hown' hgrow _
      have hb' : Below (w.heap.size + 2) w0 w1 := (HB.out.alloc (by omega) _).grown hgrow (by simp; omega) (fun k hk => by cases hk; exact hh1)
      rw [icells_snoc] at hown'
      have HG := Lib.hid hown'
      have HB' := Lib.hid hb'
      clear hgrow hown' hb'
      go_wp2
      go_roundw
      case rel => exact ⟨k + 1, by omega, by go_num, HG.out, by obtain ⟨g, cap, e⟩ := Joins.ownsRow_form HG.out (by omega); rw [e]; simp, HB'.out⟩
      case measure => simp [intOf]; omega
    · obtain rfl : k = n := by omega
      have HO0 := Lib.hid (HA0.out.on HB.out (by omega))
      have HO1 := Lib.hid (HA1.out.on HB.out (by omega))
      have HBW := Lib.hid (HB0.out.trans (HB.out.mono (by omega)))
      have hc3 : decide ((k : Int) < (k : Int)) = false := by simp
      clear HB HB0 HA0 HA1 h1 hk
      go_wp2
      go_loopw [8] (fun vi wr => ∃ (i : Nat) (d z : Int) (l : List Int), i ≤ k - 1 ∧ (d = i ∨ i = 0 ∧ d = -1) ∧ vi = .int .i64 d ∧ l.length = k ∧ Hid (shuf i z l = permN s k) ∧ One wr w.heap.size (.int .u64 z) ∧ One wr (w.heap.size + 1) (.int .u64 0) ∧ Below w.heap.size w wr ∧ wr.ownsRow (w.heap.size + 2) 3 1 (.slice (some ⟨g2, 0, none⟩) k cp2) k (icells l)) (fun d _ => (intOf d).toNat)
      case atStart => exact ⟨k - 1, (k : Int) - 1, s, upTo k, Nat.le_refl _, by omega, rfl, upTo_len k, Lib.hid rfl, HO0.out, HO1.out, HBW.out, HR.out⟩
      case round =>
        clear HO0 HO1 HBW HR
        obtain ⟨i, d, z, l, hik, hd, rfl, hl, HS1, hone0, hone1, hb, hown⟩ := hrel
        obtain ⟨wo, rfl⟩ : ∃ wo : World, wo = wr := ⟨_, rfl⟩
        have HLL := Lib.hid hl
        have HO0 := Lib.hid hone0
        have HO1 := Lib.hid hone1
        have HB := Lib.hid hb
        have HW := Lib.hid hown
        clear hl hone1 hb hown
        cases i with
        | zero =>
          have c3 : decide (0 < d) = false := by simp; omega
          have HN := Lib.hid (show permN s k = (l, z) from HS1.out.symm)
          obtain ⟨x0, -⟩ := hone0.drew.cells
          obtain ⟨x1, f1⟩ := HO1.out.drew.cells
          have HX := Lib.hid (HO1.out.set (x' := .int .u64 z)).cells.1
          clear hone0
          go_wp2_with fail
          go_region
          go_wp2_with fail
          refine bodyPost_ret (v := .tuple #[.slice (some ⟨g2, 0, none⟩) k cp2, .agg #[.int .u64 z]]) (by simp [results, Try.results13, go_sem, HX.out]) rfl ⟨_, by rw [HN.out], ?_, (HB.out.setCell (by simp) _).drew⟩
          rw [HN.out]
          exact ints_of_owned (B := w.heap.size + 2) (by rw [HLL.out]; exact (ownsRow_setCell_below HW.out (by simp) _).drew)
        | succ i =>
          obtain ⟨j, hj, hjlt⟩ := blw_nat z (i + 2) (by omega) (by omega)
          obtain ⟨m, hm⟩ : ∃ m, m = i + 1 := ⟨_, rfl⟩
          have hS := (shuf_step (l := l) hj).symm.trans HS1.out
          rw [show ((i + 2 : Nat) : Int) = (m : Int) + 1 by omega] at hj
          rw [← hm] at hS hik
          have HS2 := Lib.hid hS
          have HJ := Lib.hid hj
          have HM := Lib.hid hm
          replace hjlt : j < m + 1 := by omega
          have hm1 : 1 ≤ m := by omega
          obtain rfl : d = (m : Int) := by omega
          obtain ⟨x0, -⟩ := hone0.cells
          have c3 : decide (0 < (m : Int)) = true := by simp; omega
          have hwsz := HB.out.size
          have hg2 := (HW.out.lt g2 rfl).2
          have hows : w.heap.size < wo.heap.size := hone0.lt
          clear hS hj hm HS1 hone0 hd
          go_wp2_with fail
          go_at_call 10; refine (refBelow_any _ _ _ (by omega) (by omega)).mono ?_; rintro e w2 ⟨rfl, hb2⟩
          rw [HJ.out]
          have hbs2 := hb2.size
          have ho0 := HO0.out.on hb2 hows
          obtain ⟨y0, y1⟩ := (ho0.alloc (.cells #[.int .u64 (nxt z)] 27)).cells
          clear x0
          go_upto_region 13 with fail
          obtain ⟨w3, hw3⟩ : ∃ w3, w3 = (w2.alloc (.cells #[.int .u64 (nxt z)] 27)).setCell ⟨w.heap.size, 0, none⟩ (.int .u64 (nxt z)) := ⟨_, rfl⟩
          rw [← hw3]
          have hA : One w3 w.heap.size (.int .u64 (nxt z)) := by rw [hw3]; exact (ho0.alloc _).set
          have hB : One w3 (w.heap.size + 1) (.int .u64 0) := by rw [hw3]; exact ((HO1.out.on hb2 (by omega)).alloc _).other (by omega) _
          have hC : Below w.heap.size w w3 := by rw [hw3]; exact ((HB.out.trans (hb2.mono (by omega))).alloc (by omega) _).setCell (Nat.le_refl _) _
          have hr : w3.ownsRow (w.heap.size + 2) 3 1 (.slice (some ⟨g2, 0, none⟩) k cp2) k (icells l) := by
            rw [hw3]; exact ownsRow_setCell_below ((own_below HW.out hb2).alloc _) (by show w.heap.size < _; omega) _
          clear hw3 ho0 y0 y1 hb2
          have hmk : m < k := by omega
          have hjk : j < k := by omega
          have x1 : w3.cell? ⟨g2, m, none⟩ = some (.int .i64 (l.getD m 0)) := by rw [hr.cellAt m (by omega), icells_at l (by rw [HLL.out]; exact hmk)]
          have x2 : w3.cell? ⟨g2, j, none⟩ = some (.int .i64 (l.getD j 0)) := by rw [hr.cellAt j (by omega), icells_at l (by rw [HLL.out]; exact hjk)]
          have f1 := hr.frozenAt m
          have f2 := hr.frozenAt j
          have b1 : (m : Int) < (k : Int) := by omega
          have b2 : (j : Int) < (k : Int) := by omega
          have b3 : 0 ≤ (m : Int) := by omega
          have b4 : 0 ≤ (j : Int) := by omega
          obtain ⟨p, hp⟩ : ∃ p, p = l.getD m 0 := ⟨_, rfl⟩
          obtain ⟨q, hq⟩ : ∃ q, q = l.getD j 0 := ⟨_, rfl⟩
          rw [← hp] at x1
          rw [← hq] at x2
          have hst : ((w3.setCell ⟨g2, m, none⟩ (.int .i64 q)).setCell ⟨g2, j, none⟩ (.int .i64 p)).ownsRow (w.heap.size + 2) 3 1 (.slice (some ⟨g2, 0, none⟩) k cp2) k (icells (swp l m j)) := by
            rw [icells_swp, ← hp, ← hq]
            exact ((hr.stored m (.int .i64 q)).1.stored j (.int .i64 p)).1
          have HST := Lib.hid hst
          have HA2 := Lib.hid hA
          have HB2 := Lib.hid hB
          have HC2 := Lib.hid hC
          have h1s := (hr.stored m (.int .i64 q)).1
          obtain ⟨u1, x3⟩ : ∃ u, (w3.setCell ⟨g2, m, none⟩ (.int .i64 q)).cell? ⟨g2, j, none⟩ = some u :=
            ⟨((icells l).set m (.int .i64 q))[j]'(by rw [List.length_set, icells_len, HLL.out]; exact hjk), by rw [h1s.cellAt j (by omega)]; exact List.getElem?_eq_getElem _⟩
          clear h1s hA hB hC hr hp hq hst
          go_region
          go_wp2_with fail
          go_roundw
          case rel => exact ⟨i, (m : Int) - 1, nxt z, swp l m j, by have := HM.out; omega, by have := HM.out; omega, by go_num, by rw [swp_len]; exact HLL.out, Lib.hid HS2.out, (HA2.out.other (by omega) _).other (by omega) _, (HB2.out.other (by omega) _).other (by omega) _, ((HC2.out.setCell (by show _ ≤ g2; omega) _).setCell (by show _ ≤ g2; omega) _).drew, HST.out⟩
          case measure => simp [intOf]; omega
end Go.Proofs.Ytpagcphebokkmaa.rnd
