/- The walk of Scale. -/
import Derived.Test.YtchokhfcemeagaaF3
import Derived.Laws.CopyOwn
namespace Go.Proofs.Ytchokhfcemeagaa.score
open Go.RowKit
open Go.Proofs.Ytchokhfcemeagaa.fns Go.Proofs.Ytchokhfcemeagaa.nats

/-- scores that are scaled so far -/
def mix (bs : List Nat) (k : Nat) : List Nat := (bs.map shr).take k ++ bs.drop k
theorem mix_zero (bs : List Nat) : mix bs 0 = bs := by simp [mix]
theorem mix_all (bs : List Nat) : mix bs bs.length = bs.map shr := by unfold mix; rw [List.take_of_length_le (by simp), List.drop_length, List.append_nil]
theorem mix_len (bs : List Nat) (k : Nat) : (mix bs k).length = bs.length := by simp [mix]; omega
theorem mix_set {bs : List Nat} {k : Nat} (h : k < bs.length) : (mix bs k).set k (shr (bs.getD k 0)) = mix bs (k + 1) := by
  unfold mix
  have h1 : k < (bs.map shr).length := by rw [List.length_map]; exact h
  have hl : ((bs.map shr).take k).length = k := by rw [List.length_take]; omega
  rw [List.take_succ_eq_append_getElem h1, List.set_append_right _ _ (by omega), hl, Nat.sub_self, List.drop_eq_getElem_cons h, List.set_cons_zero, List.append_assoc]
  congr 1
  simp [List.getD, h]
theorem fcells_len (l : List Nat) : (fcells l).length = l.length := by simp [fcells]
theorem fcells_set (l : List Nat) (k y : Nat) : (fcells l).set k (.float .f64 y) = fcells (l.set k y) := by unfold fcells; rw [List.map_set]
theorem fcells_at {l : List Nat} {k : Nat} (h : k < l.length) : (fcells l)[k]? = some (.float .f64 (l.getD k 0)) := by
  unfold fcells; rw [List.getElem?_map, List.getElem?_eq_getElem h]; simp [List.getD, h]
theorem fcells_one (l : List Nat) : ∀ v ∈ fcells l, v.oneCell' = true := by
  intro v hv; unfold fcells at hv; obtain ⟨b, -, rfl⟩ := List.mem_map.1 hv; rfl
theorem splice_whole {α : Type} (Z cs : List α) (h : Z.length = cs.length) : splice Z 0 cs = cs := by simp [splice, ← h]

theorem store_float (w : World) (a : Addr) (n : Nat) : (store a (.float .f64 n)).run Try.prog w = stored Try.prog w a (.float .f64 n) Mode.plain := run_store Try.prog w a _ _ rfl
/-- cells that lie from an address on, where there are any -/
def From (w : World) (a : Option Addr) (cs : List Value) : Prop := 0 < cs.length → ∃ ad, a = some ad ∧ ∀ j v, cs[j]? = some v → w.cell? (ad.add j) = some v
set_option maxHeartbeats 1600000 in
theorem Scale_any (bs : List Nat) (v : Value) (w : World) (hv : Rd Fl w v bs) (hw : AllW bs) (hm : bs.length ≤ 2000) :
    Calls Try.prog 13 #[v] w fun e w' => ∃ v', e = .returned v' ∧ Rd Fl w' v' (scaled bs) ∧ Below w.heap.size w w' := by
  obtain ⟨i0, hi, hz0, hz1, hz2⟩ := info_parts infoF
  have HV := Lib.hid hv
  obtain ⟨a, cap, rfl, hc1, hc2, hcell⟩ := hv
  unfold maxLen at hc2
  obtain ⟨n, hn⟩ : ∃ n, n = bs.length := ⟨_, rfl⟩
  rw [← hn] at hc1 hm hcell HV ⊢
  have HN := Lib.hid hn
  have HC := Lib.hid hcell
  have HW := Lib.hid hw
  clear hcell hn hw
  go_enter Try.func13, Try.ntmps13
  go_wp2_with (refine wpList_make_full _ rfl (.tmp 8) (.tmp 8) 30 rfl w.heap.size 24 i0 (.float .f64 0) 1 Try.underlying30 hi hz0 hz1 .i64 .i64 _ _ n rfl rfl rfl rfl (by rw [hz2]; omega) (by unfold maxLen; omega) (Nat.le_refl _) ?_)
  intro w1 hown hgrow
  have hb : Below w.heap.size w w1 := (Below.refl _ w).grown hgrow (Nat.le_refl _) (fun k hk => by cases hk)
  obtain ⟨cur, hheap, hcur⟩ : ∃ cur : List Value, w1.heap[w.heap.size]? = some (.cells cur.toArray 24 (0, 0)) ∧ cur.length = n := by
    rcases hown.2 with ⟨e, -⟩ | ⟨g, cp, cu, e, e1, e2, e3, e4, e5, e6⟩
    · cases e
    · cases e
      exact ⟨cu.toList, by simpa using e2, by simpa using e5⟩
  have HCUR := Lib.hid hcur
  have HHEAP := Lib.hid hheap
  have HB := Lib.hid hb
  have HFC : Hid ((fcells bs).length = Nat.min n n) := Lib.hid (by rw [fcells_len, ← HN.out]; simp)
  have HPOS : Hid (From w1 a (fcells bs)) := Lib.hid (by
    intro hp
    rw [fcells_len, ← HN.out] at hp
    obtain ⟨b, off, rfl, hbl, hcs⟩ := HC.out hp
    refine ⟨_, rfl, fun j v hj => ?_⟩
    have hjl := (List.getElem?_eq_some_iff.1 hj).1
    rw [fcells_len] at hjl
    rw [fcells_at hjl] at hj
    cases hj
    rw [addr_add, HB.out.cell (p := ⟨b, off + j, none⟩) hbl]
    exact hcs j (by rw [HN.out]; exact hjl))
  clear hown hgrow hb hcur hheap
  go_wp2_with (refine wpList_copy_splice (o := ⟨some 12, _, _, _, _, _⟩) rfl (.tmp 10) (.tmp 11) 30 30 rfl 24 Try.underlying30 (by kernel_rfl) _ _ _ _ _ _ rfl rfl w.heap.size 0 cur _ HHEAP.out (fcells bs) HFC.out (fun hp => ⟨rfl, HPOS.out hp⟩) (by have h1 := HFC.out; have h2 := HCUR.out; rw [h1, h2]; simp) (fcells_one bs) w.heap.size w HB.out (Nat.le_refl _) ?_)
  intro w2 HG2 hb2
  have hown : w2.ownsRow w.heap.size 24 1 (.slice (some ⟨w.heap.size, 0, none⟩) n n) n (fcells bs) := by
    have h1 := HG2.out
    have hl : (fcells bs).length = n := by rw [fcells_len, HN.out]
    rw [splice_whole _ _ (by rw [HCUR.out, hl])] at h1
    exact ⟨by omega, .inr ⟨w.heap.size, n, _, rfl, Nat.le_refl _, h1, Nat.le_refl _, by unfold maxLen; omega, by simp [hl], by simp only [Nat.mul_one]; rw [List.take_of_length_le (by simp [hl])]⟩⟩
  have HO := Lib.hid hown
  have HB2 := Lib.hid hb2
  have HV2 := Lib.hid (HV.out.on hb2)
  clear hown hb2 HPOS HFC HHEAP HCUR HB
  go_wp2_with fail
  go_at_call 9; refine (Most_any bs _ _ HV2.out HW.out).mono ?_; rintro e w' ⟨rfl, rfl⟩
  rw [← HN.out]
  cases n with
  | zero =>
    have HS : Hid (scaled bs = bs) := Lib.hid (scaled_not (by have := HN.out; unfold hot; rw [List.eq_nil_of_length_eq_zero this.symm]; rfl))
    rw [most_zero]
    go_wp2_with fail
    go_ret
    refine ⟨_, rfl, ?_, HB2.out⟩
    rw [HS.out]
    exact rd_of_owned (B := w.heap.size) (by rw [← HN.out]; exact HO.out)
  | succ q =>
    obtain ⟨j, hj, hmj⟩ := most_some bs q
    obtain ⟨n, hn2⟩ : ∃ n, n = q + 1 := ⟨_, rfl⟩
    rw [← hn2] at hj hmj hm hc1 HN HC HO ⊢
    rw [hmj]
    have HH := Lib.hid (hot_most (bs := bs) (j := j) (by rw [← HN.out]; exact hmj) (by rw [← HN.out]; exact hj))
    obtain ⟨b, off, rfl, hbl, hcs⟩ := HC.out (by omega)
    have hd := (HB2.out.cell (p := ⟨b, off + j, none⟩) hbl).trans (hcs j hj)
    obtain ⟨x, hx⟩ : ∃ x, x = bs.getD j 0 := ⟨_, rfl⟩
    rw [← hx] at hd HH
    have hd2 : w2.cell? ⟨b, off + j, none⟩ = some (.float .f64 x) := hd
    have WX : W64 x := hx ▸ HW.out.at j
    have hf := f_hot WX
    have hnp : 0 < n := by omega
    clear hn2 hcs hd hx hmj
    cases hh : hot bs
    · have HS := Lib.hid (scaled_not hh)
      rw [HH.out, hh] at hf
      clear hh HH
      go_wp2_with fail
      go_ret
      refine ⟨_, rfl, ?_, HB2.out⟩
      rw [HS.out]
      exact rd_of_owned (B := w.heap.size) (by rw [← HN.out]; exact HO.out)
    · have HS := Lib.hid (scaled_hot hh)
      rw [HH.out, hh] at hf
      clear hh HH
      go_wp2_with fail
      go_loopw [26] (fun i wr => ∃ k : Nat, k ≤ n ∧ i = .int .i64 k ∧ wr.ownsRow w.heap.size 24 1 (.slice (some ⟨w.heap.size, 0, none⟩) n n) n (fcells (mix bs k)) ∧ Below w.heap.size w wr) (fun i _ => n - (intOf i).toNat)
      case atStart => exact ⟨0, Nat.zero_le _, rfl, by rw [mix_zero]; exact HO.out, HB2.out⟩
      case round =>
        clear hf hd2 HV2 HG2 HO HB2
        obtain ⟨k, hk, rfl, hown, hb⟩ := hrel
        obtain ⟨wo, rfl⟩ : ∃ wo : World, wo = wr := ⟨_, rfl⟩
        by_cases h1 : k < n
        · have hkl : k < bs.length := by rw [← HN.out]; exact h1
          obtain ⟨b', off', e, hbl', hcs⟩ := HC.out (by omega)
          cases e
          have hc := (hb.cell (p := ⟨b, off + k, none⟩) hbl).trans (hcs k h1)
          obtain ⟨y, hy⟩ : ∃ y, y = bs.getD k 0 := ⟨_, rfl⟩
          rw [← hy] at hc
          have hc2 : wo.cell? ⟨b, off + k, none⟩ = some (.float .f64 y) := hc
          have WY := hy ▸ HW.out.at k
          have hfz := hown.frozenAt k
          have hxx := hown.cellAt k (by omega)
          rw [fcells_at (by rw [mix_len]; exact hkl)] at hxx
          obtain ⟨z, hz⟩ : ∃ z, z = (mix bs k).getD k 0 := ⟨_, rfl⟩
          rw [← hz] at hxx
          clear hz
          have hst := hown.stored k (.float .f64 (shr y))
          rw [fcells_set, hy, mix_set hkl, ← hy] at hst
          have HST := Lib.hid hst
          have hsf := store_float wo ⟨w.heap.size, k, none⟩ (shr y)
          have HB := Lib.hid hb
          clear hown hb hcs hc hst hy
          go_wp2_with fail
          go_at_call 25; refine (shrunk_any _ _ WY).mono ?_; rintro e w' ⟨rfl, rfl⟩
          go_wp2_with fail
          go_roundw
          case rel => exact ⟨k + 1, by omega, by go_num, HST.out.1, HB.out.setCell (p := ⟨w.heap.size, k, none⟩) (Nat.le_refl _) _⟩
          case measure => simp [intOf]; omega
        · obtain rfl : k = n := by omega
          have HO := Lib.hid hown
          have HB := Lib.hid hb
          clear hown hb
          go_wp2_with fail
          go_ret
          refine ⟨_, rfl, ?_, HB.out⟩
          rw [HS.out]
          have := HO.out
          rw [HN.out, mix_all] at this
          exact rd_of_owned (B := w.heap.size) (by rw [List.length_map]; rw [HN.out]; exact this)
end Go.Proofs.Ytchokhfcemeagaa.score
