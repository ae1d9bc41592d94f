/- The walks of the statements' 'of', of Most, and of the document's. -/
import Derived.Test.YtchokhfcemeagaaF2
import Derived.Test.YtchokhfcemeagaaFnH
import Derived.Test.YtchokhfcemeagaaVr
import Derived.Deep.DeepCutAuto
import Derived.Deep.RegionWith
namespace Go.Proofs.Ytchokhfcemeagaa.score
open Go.RowKit
open Go.Proofs.Ytchokhfcemeagaa.fns Go.Proofs.Ytchokhfcemeagaa.nats

theorem infoF : (Try.prog.info? 24).map (fun i => (i.zero, i.size, i.bytes)) = some (some (.float .f64 0), 1, 8) := by kernel_rfl
theorem news1 (w : World) (x : Value) (t : TypeId) : ∀ j u, ([x] : List Value)[j]? = some u → (w.alloc (.cells #[x] t)).cell? ((⟨w.heap.size, 0, none⟩ : Addr).add j) = some u := by
  intro j u hj
  match j, hj with
  | 0, hj => simp at hj; subst hj; simp [Addr.add]
theorem one_float (k : FloatKind) (n : Nat) : ∀ u ∈ ([.float k n] : List Value), u.oneCell' = true := by
  intro u hu; simp at hu; subst hu; rfl
theorem Of_nat (b : Nat) (w : World) : Calls Try.prog 5 #[.int .u64 b] w fun e w' => e = .returned (.float .f64 b) ∧ w = w' := by
  have := Of_any (b : Int) w; rw [Int.toNat_natCast] at this; exact this

theorem below_drewN {B : Nat} {w w' : World} (h : Below B w w') (n : Nat) : Below B w (w'.drewN n) :=
  ⟨h.os, h.tape, h.output, h.size, h.block⟩
def fcells (l : List Nat) : List Value := l.map Fl
theorem fcells_snoc {r : List Nat} {k y : Nat} (h : k < r.length) (hy : y = r.getD k 0) : fcells (r.take k) ++ [Value.float .f64 y] = fcells (r.take (k + 1)) := by
  subst hy; exact map_snoc' (mk := Fl) h

set_option maxHeartbeats 800000 in
theorem of_any (bs : List Nat) (v : Value) (w : World) (hv : Rd U w v bs) (hm : bs.length ≤ 2000) :
    Calls Try.prog 10 #[v] w fun e w' => ∃ v', e = .returned v' ∧ Rd Fl w' v' bs ∧ Below w.heap.size w w' := by
  obtain ⟨i0, hi, hz0, hz1, hz2⟩ := info_parts infoF
  obtain ⟨a, cap, rfl, hc1, hc2, hcell⟩ := hv
  unfold maxLen at hc2
  obtain ⟨n, hn⟩ : ∃ n, n = bs.length := ⟨_, rfl⟩
  rw [← hn] at hc1 hm hcell ⊢
  have HN := Lib.hid hn
  have HC := Lib.hid hcell
  have H0 : (w.alloc (.cells #[] 24)).ownsRow w.heap.size 24 1 (.slice (some ⟨w.heap.size, 0, none⟩) 0 0) 0 [] :=
    World.ownsRow_made _ #[] 0 (Nat.le_refl _) (by unfold maxLen; omega) rfl
  have hb1 : Below w.heap.size w (w.alloc (.cells #[] 24)) := (Below.refl _ _).alloc (Nat.le_refl _) _
  clear hcell hn
  go_enter Try.func10, Try.ntmps10
  go_wp2
  go_loopw [3, 4] (fun v i wr => ∃ k : Nat, k ≤ n ∧ i = .int .i64 k ∧ wr.ownsRow w.heap.size 24 1 v k (fcells (bs.take k)) ∧ v ≠ .slice none 0 0 ∧ Below w.heap.size w wr) (fun _ i _ => n - (intOf i).toNat)
  case atStart => exact ⟨0, Nat.zero_le _, rfl, H0, by simp, hb1⟩
  case round =>
    clear H0 hb1
    obtain ⟨k, hk, rfl, hown, hne, hb⟩ := hrel
    obtain ⟨wo, rfl⟩ : ∃ wo : World, wo = wr := ⟨_, rfl⟩
    have hbs := hb.size
    obtain ⟨g2, cp2, rfl, hh1, hh2, hh3, hh4, -, -⟩ := Lib.holds_of_ownsRow hown hne
    unfold maxLen at hh4
    have HR := Lib.hid hown
    have HB := Lib.hid hb
    clear hown hne
    by_cases h1 : k < n
    · obtain ⟨b, off, rfl, hbl, hcs⟩ := HC.out (by omega)
      have hc := (hb.cell (p := ⟨b, off + k, none⟩) hbl).trans (hcs k h1)
      obtain ⟨y, hy⟩ : ∃ y, y = bs.getD k 0 := ⟨_, rfl⟩
      rw [← hy] at hc
      have hc2 : wo.cell? ⟨b, off + k, none⟩ = some (.int .u64 y) := hc
      have HY := Lib.hid hy
      clear hcs hc hy hb
      go_wp2_with fail
      go_at_call 5; refine (Of_nat _ _).mono ?_; rintro e w' ⟨rfl, rfl⟩
      go_wp2_with (at_builtin; refine wpList_append_own _ rfl (.tmp 12) (.tmp 18) 30 rfl w.heap.size 24 i0 (.float .f64 0) 1 8 Try.underlying30 hi hz0 hz1 hz2 rfl (by decide) _ _ _ rfl (World.ownsRow.alloc HR.out _) ⟨wo.heap.size, 0, none⟩ 1 1 [.float .f64 y] rfl rfl (news1 wo _ _) (one_float _ _) (by unfold maxLen; omega) (by omega) (by simp; omega) ?_)
      intro v' w1 hown' hgrow _
      have hb' : Below w.heap.size w w1 := (HB.out.alloc (by omega) _).grown hgrow (by simp; omega) (fun k hk => by cases hk; exact hh1)
      rw [fcells_snoc (by rw [← HN.out]; exact h1) HY.out] at hown'
      have HG := Lib.hid hown'
      have HB' := Lib.hid hb'
      clear hgrow hown' hb'
      go_wp2
      go_roundw
      case rel => exact ⟨k + 1, by omega, by go_num, HG.out, by obtain ⟨g, cap, e⟩ := Joins.ownsRow_form HG.out (by omega); rw [e]; simp, HB'.out⟩
      case measure => simp [intOf]; omega
    · obtain rfl : k = n := by omega
      clear hb
      go_wp2
      go_ret
      refine ⟨_, rfl, ?_, HB.out⟩
      have h2 := HR.out
      rw [List.take_of_length_le (by rw [← HN.out]; exact Nat.le_refl _)] at h2
      unfold fcells at h2
      exact rd_of_owned (B := w.heap.size) (by rw [← HN.out]; exact h2)

set_option maxHeartbeats 800000 in
theorem Most_any (bs : List Nat) (v : Value) (w : World) (hv : Rd Fl w v bs) (hw : AllW bs) :
    Calls Try.prog 9 #[v] w fun e w' => e = .returned (.int .i64 (most bs bs.length)) ∧ w = w' := by
  obtain ⟨a, cap, rfl, hc1, hc2, hcell⟩ := hv
  unfold maxLen at hc2
  obtain ⟨n, hn⟩ : ∃ n, n = bs.length := ⟨_, rfl⟩
  rw [← hn] at hc1 hcell ⊢
  have HN := Lib.hid hn
  have HC := Lib.hid hcell
  have HW := Lib.hid hw
  clear hcell hn hw
  go_enter Try.func9, Try.ntmps9
  go_wp2
  go_loopw [3, 8] (fun m i wr => ∃ k : Nat, k ≤ n ∧ i = .int .i64 k ∧ m = .int .i64 (most bs k) ∧ wr = w) (fun _ i _ => n - (intOf i).toNat)
  case atStart => exact ⟨0, Nat.zero_le _, rfl, rfl, rfl⟩
  case round =>
    obtain ⟨k, hk, rfl, rfl, rfl⟩ := hrel
    by_cases h1 : k < n
    · obtain ⟨b, off, rfl, hbl, hcs⟩ := HC.out (by omega)
      have hc := hcs k h1
      obtain ⟨y, hy⟩ : ∃ y, y = bs.getD k 0 := ⟨_, rfl⟩
      rw [← hy] at hc
      have hc2 : wr.cell? ⟨b, off + k, none⟩ = some (.float .f64 y) := hc
      have WY : Hid (W64 y) := Lib.hid (hy ▸ HW.out.at k)
      cases k with
      | zero =>
        have HM := Lib.hid (most_one bs)
        rw [most_zero]
        rw [Nat.add_zero] at hc2
        clear hcs hc hy
        go_wp2_with fail
        go_roundw
        case rel => exact ⟨1, by omega, by go_num, by rw [HM.out]; rfl, by trivial⟩
        case measure => simp [intOf]; omega
      | succ q =>
        obtain ⟨j, hj, hm⟩ := most_some bs q
        have hd := hcs j (by omega)
        obtain ⟨x, hx⟩ : ∃ x, x = bs.getD j 0 := ⟨_, rfl⟩
        rw [← hx] at hd
        have hd2 : wr.cell? ⟨b, off + j, none⟩ = some (.float .f64 x) := hd
        have WX : Hid (W64 x) := Lib.hid (hx ▸ HW.out.at j)
        have c0 : decide ((j : Int) < 0) = false := by simp
        rw [hm]
        obtain ⟨k, hk2⟩ : ∃ k, k = q + 1 := ⟨_, rfl⟩
        rw [← hk2] at hm h1 hc2 hk hy ⊢
        have hjk : j < k := by omega
        by_cases h2 : key x < key y
        · have HM := Lib.hid (most_yes hm (by rw [← hx, ← hy]; exact h2))
          have HL := Lib.hid (decide_eq_true h2)
          clear hcs hc hy hx hd hm h2 hj hk2
          go_wp2_with fail
          go_at_call 8; refine (Less_of HL.out WX.out WY.out _).mono ?_; rintro e w' ⟨rfl, rfl⟩
          go_wp2_with fail
          go_roundw
          case rel => exact ⟨k + 1, by omega, by go_num, by rw [HM.out], by trivial⟩
          case measure => simp [intOf]; omega
        · have HM := Lib.hid (most_no hm (by rw [← hx, ← hy]; exact h2))
          have HL := Lib.hid (decide_eq_false h2)
          clear hcs hc hy hx hd hm h2 hj hk2
          go_wp2_with fail
          go_at_call 8; refine (Less_of HL.out WX.out WY.out _).mono ?_; rintro e w' ⟨rfl, rfl⟩
          go_wp2_with fail
          go_roundw
          case rel => exact ⟨k + 1, by omega, by go_num, by rw [HM.out], by trivial⟩
          case measure => simp [intOf]; omega
    · obtain rfl : k = n := by omega
      go_wp2
      go_ret
      exact ⟨rfl, rfl⟩
theorem refKey_q (b : Nat) (w : World) (hb : W64 b) : Calls Try.prog 7 #[.int .u64 b] w fun e w' => e = .returned (.int .u64 (key b)) ∧ w' = w :=
  (refKey_any b w hb).mono fun _ _ ⟨h1, h2⟩ => ⟨h1, h2.symm⟩

set_option maxHeartbeats 800000 in
theorem refMost_any (bs : List Nat) (v : Value) (w : World) (hv : Rd U w v bs) (hw : AllW bs) :
    Calls Try.prog 11 #[v] w fun e w' => e = .returned (.int .i64 (most bs bs.length)) ∧ Below w.heap.size w w' := by
  obtain ⟨a, cap, rfl, hc1, hc2, hcell⟩ := hv
  unfold maxLen at hc2
  obtain ⟨n, hn⟩ : ∃ n, n = bs.length := ⟨_, rfl⟩
  rw [← hn] at hc1 hcell ⊢
  have HN := Lib.hid hn
  have HC := Lib.hid hcell
  have HW := Lib.hid hw
  clear hcell hn hw
  go_enter Try.func11, Try.ntmps11
  go_wp2
  go_loopw [3, 4] (fun m i wr => ∃ k d : Nat, k ≤ n ∧ i = .int .i64 k ∧ m = .int .i64 (most bs k) ∧ Hid (wr = w.drewN d)) (fun _ i _ => n - (intOf i).toNat)
  case atStart => exact ⟨0, 0, Nat.zero_le _, rfl, rfl, Lib.hid (by simp [World.drewN_zero])⟩
  case round =>
    obtain ⟨k, d, hk, rfl, rfl, HD⟩ := hrel
    by_cases h1 : k < n
    · obtain ⟨b, off, rfl, hbl, hcs⟩ := HC.out (by omega)
      have hc : wr.cell? ⟨b, off + k, none⟩ = some (U (bs.getD k 0)) := by rw [HD.out]; exact hcs k h1
      obtain ⟨y, hy⟩ : ∃ y, y = bs.getD k 0 := ⟨_, rfl⟩
      rw [← hy] at hc
      have hc2 : wr.cell? ⟨b, off + k, none⟩ = some (.int .u64 y) := hc
      have WY : Hid (W64 y) := Lib.hid (hy ▸ HW.out.at k)
      have hki : (k : Int) < (n : Int) := by omega
      cases k with
      | zero =>
        have HM := Lib.hid (most_one bs)
        rw [most_zero]
        rw [Nat.add_zero] at hc2
        clear hcs hc hy
        go_wp2
        go_quiet (fail)
        go_wp2
        refine ⟨⟨1, d + nq, by omega, by go_num, by rw [HM.out]; rfl, Lib.hid (by rw [HD.out]; simp [World.drewN, Nat.add_assoc])⟩, by simp [intOf]; omega⟩
      | succ q =>
        obtain ⟨j, hj, hm⟩ := most_some bs q
        have hd : wr.cell? ⟨b, off + j, none⟩ = some (U (bs.getD j 0)) := by rw [HD.out]; exact hcs j (by omega)
        obtain ⟨x, hx⟩ : ∃ x, x = bs.getD j 0 := ⟨_, rfl⟩
        rw [← hx] at hd
        have hd2 : wr.cell? ⟨b, off + j, none⟩ = some (.int .u64 x) := hd
        have WX : Hid (W64 x) := Lib.hid (hx ▸ HW.out.at j)
        have c0 : decide ((j : Int) < 0) = false := by simp
        rw [hm]
        obtain ⟨k, hk2⟩ : ∃ k, k = q + 1 := ⟨_, rfl⟩
        rw [← hk2] at hm h1 hc2 hk hy hki ⊢
        have hjk : j < k := by omega
        by_cases h2 : key x < key y
        · have HM := Lib.hid (most_yes hm (by rw [← hx, ← hy]; exact h2))
          have c2 : decide ((key x : Int) < (key y : Int)) = true := by simp; omega
          have c3 : decide (key x < key y) = true := by simpa using h2
          clear hcs hc hy hx hd hm h2 hj hk2
          go_wp2
          go_quiet ((first | (go_at_call_of 7 (Value.int IntKind.u64 (x : Int)); exact Calls.quiet_of_same (refKey_q x _ WX.out)) | (go_at_call_of 7 (Value.int IntKind.u64 (y : Int)); exact Calls.quiet_of_same (refKey_q y _ WY.out))))
          go_wp2
          refine ⟨⟨k + 1, d + nq, by omega, by go_num, by rw [HM.out], Lib.hid (by rw [HD.out]; simp [World.drewN, Nat.add_assoc])⟩, by simp [intOf]; omega⟩
        · have HM := Lib.hid (most_no hm (by rw [← hx, ← hy]; exact h2))
          have c2 : decide ((key x : Int) < (key y : Int)) = false := by simp; omega
          have c3 : decide (key x < key y) = false := by simpa using h2
          clear hcs hc hy hx hd hm h2 hj hk2
          go_wp2
          go_quiet ((first | (go_at_call_of 7 (Value.int IntKind.u64 (x : Int)); exact Calls.quiet_of_same (refKey_q x _ WX.out)) | (go_at_call_of 7 (Value.int IntKind.u64 (y : Int)); exact Calls.quiet_of_same (refKey_q y _ WY.out))))
          go_wp2
          refine ⟨⟨k + 1, d + nq, by omega, by go_num, by rw [HM.out], Lib.hid (by rw [HD.out]; simp [World.drewN, Nat.add_assoc])⟩, by simp [intOf]; omega⟩
    · obtain rfl : k = n := by omega
      go_wp2
      go_ret
      exact ⟨rfl, by rw [HD.out]; exact below_drewN (Below.refl _ _) d⟩
end Go.Proofs.Ytchokhfcemeagaa.score
