/- Slices that read as numbers, and the walks that only read them. -/
import Derived.Test.YtjmiclgagjkooaaDoorV
import Derived.Test.YtjmiclgagjkooaaDoorFnS
import Derived.Test.YtjmiclgagjkooaaDoorShelf
import Derived.OwnWalk
import Derived.Below
import Derived.WalkSmall
import Derived.Deep.QuietTactic
import Derived.BigQuiet
namespace Go.Proofs.YtjmiclgagjkooaaDoor.lits
open Go.RowKit
open Go.Proofs.YtjmiclgagjkooaaDoor.fns

/-- v is a slice that reads as these numbers -/
def Ints (w : World) (v : Value) (zs : List Int) : Prop :=
  ∃ (a : Option Addr) (cap : Nat), v = .slice a zs.length cap ∧ zs.length ≤ cap ∧ cap ≤ maxLen ∧
    (0 < zs.length → ∃ b off, a = some ⟨b, off, none⟩ ∧ b < w.heap.size ∧ ∀ i, i < zs.length → w.cell? ⟨b, off + i, none⟩ = some (.int .i64 (zs.getD i 0)))
theorem Ints.on {w w' : World} {v : Value} {zs : List Int} (h : Ints w v zs) (hb : Below w.heap.size w w') : Ints w' v zs := by
  obtain ⟨a, cap, hv, h1, h2, h3⟩ := h
  refine ⟨a, cap, hv, h1, h2, fun hp => ?_⟩
  obtain ⟨b, off, ha, hlt, hc⟩ := h3 hp
  exact ⟨b, off, ha, Nat.lt_of_lt_of_le hlt hb.size, fun i hi => (hb.cell (p := ⟨b, off + i, none⟩) hlt).trans (hc i hi)⟩
theorem ints_of_owned {w : World} {B : Nat} {v : Value} {zs : List Int} (h : w.ownsRow B 3 1 v zs.length (zs.map (Value.int .i64))) : Ints w v zs := by
  rcases h.2 with ⟨rfl, h0⟩ | ⟨g, cap, cur, rfl, hb, hg, hn, hm, hs, ht⟩
  · exact ⟨none, 0, by rw [h0], by omega, by unfold maxLen; omega, fun hp => by omega⟩
  · refine ⟨some ⟨g, 0, none⟩, cap, rfl, hn, hm, fun hp => ⟨g, 0, rfl, (Array.getElem?_eq_some_iff.1 hg).1, fun i hi => ?_⟩⟩
    rw [Nat.zero_add, h.cellAt i (by omega), List.getElem?_map, List.getElem?_eq_getElem hi]
    simp [List.getD, hi]
theorem ints_empty (w : World) (a : Option Addr) (cap : Nat) (h : cap ≤ maxLen) : Ints w (.slice a 0 cap) [] := ⟨a, cap, rfl, Nat.zero_le _, h, fun hp => by simp at hp⟩

/-- is a number among some -/
def hasB (zs : List Int) (x : Int) : Bool := zs.contains x
theorem litHas_any (zs : List Int) (v : Value) (x : Int) (w : World) (hv : Ints w v zs) :
    Calls Tryd.prog 19 #[v, .int .i64 x] w fun e w' => e = .returned (.bool (hasB zs x)) ∧ w = w' := by
  obtain ⟨a, cap, rfl, h1, h2, h3⟩ := hv
  unfold maxLen at h2
  by_cases h0 : 0 < zs.length
  · obtain ⟨b, off, rfl, -, hc⟩ := h3 h0
    have HC' := Tryd.slices_Contains_int b off zs.length cap zs x w (Nat.le_refl _) (by omega) hc
    rw [List.take_length] at HC'
    have HC : Hid (Calls Tryd.prog 30 #[.slice (some ⟨b, off, none⟩) zs.length cap, .int .i64 x] w fun e w' => e = .returned (.bool (hasB zs x)) ∧ w' = w) := Lib.hid HC'
    clear HC'
    generalize zs.length = n at *
    clear hc h3
    go_enter Tryd.func19, Tryd.ntmps19
    go_wp2_with fail
    go_at_call 30; refine HC.out.mono ?_; rintro e w' ⟨rfl, rfl⟩
    go_wp2_with fail
    go_ret
    exact ⟨rfl, rfl⟩
  · obtain rfl : zs = [] := List.length_eq_zero_iff.1 (by omega)
    have HC := Lib.hid (Tryd.slices_Contains_int_empty a cap x w)
    clear h3
    go_enter Tryd.func19, Tryd.ntmps19
    go_wp2_with fail
    go_at_call 30; refine HC.out.mono ?_; rintro e w' ⟨rfl, rfl⟩
    go_wp2_with fail
    go_ret
    exact ⟨rfl, rfl⟩

theorem contains_take {zs : List Int} {x : Int} {k : Nat} (h : k < zs.length) (h2 : zs.getD k 0 = x) : hasB zs x = true := by
  unfold hasB; rw [← h2]; simp [List.getD, h]
theorem contains_not {zs : List Int} {x : Int} (h : ∀ i, i < zs.length → zs.getD i 0 ≠ x) : hasB zs x = false := by
  unfold hasB
  cases hc : zs.contains x with
  | false => rfl
  | true =>
    have : x ∈ zs := by simpa using hc
    obtain ⟨i, hi, e⟩ := List.getElem_of_mem this
    exact absurd (by rw [getD_of hi, e]) (h i hi)

theorem refHas_any (zs : List Int) (v : Value) (x : Int) (w : World) (hv : Ints w v zs) :
    Calls Tryd.prog 20 #[v, .int .i64 x] w fun e w' => e = .returned (.bool (hasB zs x)) ∧ w = w' := by
  obtain ⟨a, cap, rfl, h1, h2, h3⟩ := hv
  unfold maxLen at h2
  obtain ⟨n, hn⟩ : ∃ n, n = zs.length := ⟨_, rfl⟩
  rw [← hn] at h1 ⊢
  have HN := Lib.hid hn
  have HC := Lib.hid h3
  clear h3 hn
  go_enter Tryd.func20, Tryd.ntmps20
  go_wp2
  go_loop [5] (fun i => ∃ k : Nat, k ≤ n ∧ i = .int .i64 k ∧ ∀ i, i < k → zs.getD i 0 ≠ x) (fun i => n - (intOf i).toNat)
  case atStart => exact ⟨0, Nat.zero_le _, rfl, fun i hi => by omega⟩
  case round =>
    obtain ⟨k, hk, rfl, hno⟩ := hrel
    have HNO := Lib.hid hno
    clear hno
    by_cases h4 : k < n
    · have h5 := h4
      rw [HN.out] at h5
      obtain ⟨b, off, rfl, hlt, hc⟩ := HC.out (by omega)
      have hck := hc k h5
      obtain ⟨y, hy⟩ : ∃ y, y = zs.getD k 0 := ⟨_, rfl⟩
      rw [← hy] at hck
      have HY := Lib.hid hy
      have H5 := Lib.hid h5
      clear hc hy h5
      by_cases hxy : y = x
      · have c1 : (y == x) = true := by simp [hxy]
        have HR := Lib.hid (contains_take H5.out (HY.out.symm.trans hxy))
        clear hxy
        go_wp2
        go_ret
        exact ⟨retB HR.out.symm, rfl⟩
      · have c1 : (y == x) = false := by simp [hxy]
        have HX := Lib.hid hxy
        clear hxy
        go_wp2
        go_round
        case rel => exact ⟨k + 1, by omega, by go_num, fun i hi => by
          by_cases e : i = k
          · rw [e, ← HY.out]; exact HX.out
          · exact HNO.out i (by omega)⟩
        case measure => simp [intOf]; omega
    · have HR := Lib.hid (contains_not (zs := zs) (x := x) (fun i hi => HNO.out i (by rw [← HN.out] at hi; omega)))
      have c1 : decide ((k : Int) < (n : Int)) = false := by simp; omega
      go_wp2
      go_ret
      exact ⟨retB HR.out.symm, rfl⟩

theorem ints_len (xs ys : List Int) (v u : Value) (w : World) (hv : Ints w v xs) (hu : Ints w u ys) (h : xs.length ≠ ys.length) :
    Calls Tryd.prog 16 #[v, u] w fun e w' => e = .returned (.bool false) ∧ w = w' := by
  obtain ⟨a, cap, rfl, h1, h2, -⟩ := hv
  obtain ⟨b, cap', rfl, h3, h4, -⟩ := hu
  unfold maxLen at h2 h4
  obtain ⟨n, hn1⟩ : ∃ n, n = xs.length := ⟨_, rfl⟩
  obtain ⟨m, hm1⟩ : ∃ m, m = ys.length := ⟨_, rfl⟩
  have c1 : ((n : Int) != (m : Int)) = true := by simp; omega
  rw [← hn1] at h1 ⊢
  rw [← hm1] at h3 ⊢
  clear hn1 hm1 h
  go_enter Tryd.func16, Tryd.ntmps16
  go_wp2
  go_ret
  exact ⟨rfl, rfl⟩

def SameTo (xs ys : List Int) (k : Nat) : Prop := ∀ i, i < k → xs.getD i 0 = ys.getD i 0
theorem same_of {xs ys : List Int} (h : xs.length = ys.length) (hs : SameTo xs ys xs.length) : xs = ys := by
  apply List.ext_getElem h
  intro i h1 h2
  have := hs i h1
  simpa [List.getD, h1, h2] using this

set_option maxHeartbeats 400000 in
theorem refInts_any (xs ys : List Int) (v u : Value) (w : World) (hv : Ints w v xs) (hu : Ints w u ys) :
    Calls Tryd.prog 16 #[v, u] w fun e w' => e = .returned (.bool (decide (xs = ys))) ∧ Below w.heap.size w w' := by
  by_cases hl : xs.length = ys.length
  · obtain ⟨a, cap, rfl, hc1, hc2, hcell⟩ := hv
    obtain ⟨a', cap', rfl, hd1, hd2, hdell⟩ := hu
    unfold maxLen at hc2 hd2
    obtain ⟨n, hn⟩ : ∃ n, n = xs.length := ⟨_, rfl⟩
    rw [← hl, ← hn]
    rw [← hl, ← hn] at hd1
    have HN := Lib.hid hn
    have HL := Lib.hid hl
    have HC := Lib.hid hcell
    have HD := Lib.hid hdell
    have hn2 : n ≤ cap := by omega
    clear hcell hdell hn hc1 hl
    go_enter Tryd.func16, Tryd.ntmps16
    go_wp2
    go_loopw [5] (fun i wr => ∃ (k d : Nat), k ≤ n ∧ i = .int .i64 k ∧ SameTo xs ys k ∧ wr = w.drewN d) (fun i _ => n - (intOf i).toNat)
    case atStart => exact ⟨0, 0, Nat.zero_le _, rfl, fun i hi => by omega, by simp [World.drewN_zero]⟩
    case round =>
      obtain ⟨k, d, hk, rfl, hs, rfl⟩ := hrel
      have HS := Lib.hid hs
      clear hs
      by_cases h1 : k < n
      · have h1' := h1
        rw [HN.out] at h1'
        have h1'' := h1'
        rw [HL.out] at h1''
        obtain ⟨b, off, rfl, hbs, hcs⟩ := HC.out (by omega)
        obtain ⟨b', off', rfl, hbs', hcs'⟩ := HD.out (by omega)
        have hc := hcs k h1'
        have hd := hcs' k h1''
        have hki : (k : Int) < (n : Int) := by omega
        obtain ⟨x, hx⟩ : ∃ x, x = xs.getD k 0 := ⟨_, rfl⟩
        obtain ⟨y, hy⟩ : ∃ y, y = ys.getD k 0 := ⟨_, rfl⟩
        rw [← hx] at hc
        rw [← hy] at hd
        have HX := Lib.hid hx
        have HY := Lib.hid hy
        clear hcs hcs' h1' h1'' hx hy
        by_cases hxy : x = y
        · subst hxy
          go_wp2
          go_quiet (fail)
          go_wp2
          refine ⟨⟨k + 1, d + nq, by omega, by go_num, fun i hi => ?_, rfl⟩, by simp [intOf]; omega⟩
          by_cases e : i = k
          · rw [e]; exact HX.out.symm.trans HY.out
          · exact HS.out i (by omega)
        · have hxy' : (x != y) = true := by simpa using hxy
          have hne : xs ≠ ys := fun e => hxy (by rw [HX.out, HY.out, e])
          have HE := Lib.hid (show decide (xs = ys) = false by simpa using hne)
          clear hne hxy
          go_wp2
          go_quiet (fail)
          go_wp2
          go_ret
          refine ⟨retB HE.out.symm, ?_⟩
          exact below_drewN (below_drewN (Below.refl _ _) _) _
      · have HE := Lib.hid (show decide (xs = ys) = true by
          have := same_of HL.out (fun i hi => HS.out i (by rw [← HN.out] at hi; omega))
          simpa using this)
        have hf : decide ((k : Int) < (n : Int)) = false := by simp; omega
        go_wp2
        go_ret
        exact ⟨retB HE.out.symm, below_drewN (Below.refl _ _) _⟩
  · have e : decide (xs = ys) = false := by simp; intro h; exact hl (by rw [h])
    rw [e]
    exact (ints_len xs ys v u w hv hu hl).mono fun _ _ ⟨h1, h2⟩ => ⟨h1, h2 ▸ Below.refl _ _⟩
end Go.Proofs.YtjmiclgagjkooaaDoor.lits
