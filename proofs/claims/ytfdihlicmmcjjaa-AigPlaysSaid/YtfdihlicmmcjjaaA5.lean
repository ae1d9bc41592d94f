/- Slices beside a store; the walk of the document's All. -/
import Derived.Test.YtfdihlicmmcjjaaA4
namespace Go.Proofs.Ytfdihlicmmcjjaa.aig
open Go.RowKit
open Go.Proofs.Ytfdihlicmmcjjaa.mem Go.Proofs.Ytfdihlicmmcjjaa.agf

/-- a slice of ints that lies in none of the blocks of P -/
def KInts (P : Nat → Prop) (w : World) (v : Value) (zs : List Int) : Prop :=
  ∃ (a : Option Addr) (cap : Nat), v = .slice a zs.length cap ∧ zs.length ≤ cap ∧ cap ≤ maxLen ∧
    (0 < zs.length → ∃ b off, a = some ⟨b, off, none⟩ ∧ b < w.heap.size ∧ ¬ P b ∧ ∀ i, i < zs.length → w.cell? ⟨b, off + i, none⟩ = some (.int .i64 (zs.getD i 0)))
theorem KInts.move {P P' : Nat → Prop} {w w' : World} {v : Value} {zs : List Int} (h : KInts P w v zs) (m : Moved P P' w w') : KInts P' w' v zs := by
  obtain ⟨a, cap, hv, h1, h2, h3⟩ := h
  refine ⟨a, cap, hv, h1, h2, fun hp => ?_⟩
  obtain ⟨b, off, ha, hlt, hn, hc⟩ := h3 hp
  refine ⟨b, off, ha, Nat.lt_of_lt_of_le hlt m.only.size, fun hb => ?_, fun i hi => ?_⟩
  · rcases m.own b hb with e | e
    · exact hn e
    · omega
  · exact (World.cell?_of_block (w := w) (a := ⟨b, off + i, none⟩) (m.only.block b hlt hn)).trans (hc i hi)
/-- nodes that a slice holds, in none of the blocks of P -/
def KNds (P : Nat → Prop) (w : World) (v : Value) (ns : List (Int × Int)) : Prop :=
  ∃ (a : Option Addr) (cap : Nat), v = .slice a ns.length cap ∧ ns.length ≤ cap ∧ cap ≤ maxLen ∧
    (0 < ns.length → ∃ b off, a = some ⟨b, off, none⟩ ∧ b < w.heap.size ∧ ¬ P b ∧ ∀ i, i < ns.length →
      w.cell? ⟨b, off + i * 2, none⟩ = some (.int .i64 (ns.getD i (0, 0)).1) ∧ w.cell? ⟨b, off + i * 2 + 1, none⟩ = some (.int .i64 (ns.getD i (0, 0)).2))
theorem KNds.move {P P' : Nat → Prop} {w w' : World} {v : Value} {ns : List (Int × Int)} (h : KNds P w v ns) (m : Moved P P' w w') : KNds P' w' v ns := by
  obtain ⟨a, cap, hv, h1, h2, h3⟩ := h
  refine ⟨a, cap, hv, h1, h2, fun hp => ?_⟩
  obtain ⟨b, off, ha, hlt, hn, hc⟩ := h3 hp
  refine ⟨b, off, ha, Nat.lt_of_lt_of_le hlt m.only.size, fun hb => ?_, fun i hi => ?_⟩
  · rcases m.own b hb with e | e
    · exact hn e
    · omega
  · have hbk := m.only.block b hlt hn
    exact ⟨(World.cell?_of_block (w := w) (a := ⟨b, off + i * 2, none⟩) hbk).trans (hc i hi).1, (World.cell?_of_block (w := w) (a := ⟨b, off + i * 2 + 1, none⟩) hbk).trans (hc i hi).2⟩
theorem allGo_step {s : Int × Net} {zs : List Int} {k : Nat} (h : k < zs.length) : allGo s (zs.take (k + 1)) = andF (allGo s (zs.take k)).2 (allGo s (zs.take k)).1 (zs.getD k 0) := by
  rw [List.take_succ_eq_append_getElem h]
  unfold allGo
  rw [List.foldl_append]
  simp [List.getD, h]
theorem allHas_no {m : Nat} {zs : List Int} {k : Nat} (h : k < zs.length) (hn : hasB m (zs.getD k 0) = false) : allHas m zs = false := by
  unfold allHas
  rw [List.all_eq_false]
  refine ⟨zs[k], List.getElem_mem h, ?_⟩
  have : zs.getD k 0 = zs[k] := by simp [List.getD, h]
  rw [← this, hn]; simp
theorem allHas_yes {m : Nat} {zs : List Int} (h : ∀ j, j < zs.length → hasB m (zs.getD j 0) = true) : allHas m zs = true := by
  unfold allHas
  rw [List.all_eq_true]
  intro x hx
  obtain ⟨j, hj, rfl⟩ := List.getElem_of_mem hx
  have := h j hj
  simpa [List.getD, hj] using this
theorem allGo_len (N : Net) : ∀ (zs : List Int) (s : Int × Net), N.length ≤ s.2.length → (allGo s zs).2.length ≤ s.2.length + zs.length := by
  intro zs
  induction zs with
  | nil => intro s _; simp [allGo]
  | cons z zs ih =>
    intro s hs
    obtain ⟨h1, h2, -, -⟩ := and_len s.2 s.1 z
    have := ih (andF s.2 s.1 z) (by omega)
    have e : allGo s (z :: zs) = allGo (andF s.2 s.1 z) zs := rfl
    rw [e, List.length_cons]; omega
set_option maxHeartbeats 1600000 in
theorem refAll_any (A B h : Nat) (sv v : Value) (N : Net) (zs : List Int) (w : World) (s : Rs A B w h sv N) (hz : KInts (ROwn h sv) w v zs) (hN : N.length ≤ 900000) (hn : zs.length ≤ 1000) :
    Calls Try.prog 43 #[.pointer (some ⟨h, 0, none⟩), v] w (RStep A B h sv (allF N zs).1 (allF N zs).2 w) := by
  have HS := Lib.hid s
  have HK := Lib.hid hz
  obtain ⟨a, cap, rfl, l1, l2, hcell⟩ := hz
  unfold maxLen at l2
  obtain ⟨n, hnn⟩ : ∃ n, n = zs.length := ⟨_, rfl⟩
  rw [← hnn] at l1 hn hcell HK ⊢
  have HN := Lib.hid hnn
  have HC := Lib.hid hcell
  clear s hcell hnn
  go_enter Try.func43, Try.ntmps43
  go_wp2_with fail
  go_loop [5] (fun i => ∃ k : Nat, k ≤ n ∧ i = .int .i64 k ∧ Hid (∀ j, j < k → hasB N.length (zs.getD j 0) = true)) (fun i => n - (intOf i).toNat)
  case atStart => exact ⟨0, Nat.zero_le _, rfl, Lib.hid (fun j hj => by omega)⟩
  case round =>
    obtain ⟨k, hk, rfl, HJ⟩ := hrel
    by_cases hlt : k < n
    · obtain ⟨b, off, rfl, hb, -, hcs⟩ := HC.out (by omega)
      have e1 := hcs k hlt
      obtain ⟨z, hz⟩ : ∃ z, z = zs.getD k 0 := ⟨_, rfl⟩
      rw [← hz] at e1
      have HZ := Lib.hid hz
      have d1 : (k : Int) < (n : Int) := by omega
      have d2 : 0 ≤ (k : Int) := by omega
      clear hcs hz
      cases hh : hasB N.length z
      · have HR : Hid (RStep A B h sv (allF N zs).1 (allF N zs).2 w (.returned (.int .i64 (-1))) w) := Lib.hid (by
          have e : allF N zs = (-1, N) := by unfold allF; rw [allHas_no (k := k) (by rw [← HN.out]; exact hlt) (by rw [← HZ.out]; exact hh)]; rfl
          rw [e]; exact RStep.same HS.out rfl)
        have HH := Lib.hid hh
        clear hh
        go_wp2_with fail
        go_at_call 53; refine (refHas_of HH.out _ HS.out (by omega)).mono ?_; rintro e w' ⟨rfl, rfl⟩
        go_wp2_with fail
        go_ret
        exact HR.out
      · have HJ2 : Hid (∀ j, j < k + 1 → hasB N.length (zs.getD j 0) = true) := Lib.hid (fun j hj => by
          by_cases e : j = k
          · rw [e, ← HZ.out]; exact hh
          · exact HJ.out j (by omega))
        have HH := Lib.hid hh
        clear hh
        go_wp2_with fail
        go_at_call 53; refine (refHas_of HH.out _ HS.out (by omega)).mono ?_; rintro e w' ⟨rfl, rfl⟩
        go_wp2_with fail
        go_round
        case rel => exact ⟨k + 1, by omega, by go_num, HJ2⟩
        case measure => simp [intOf]; omega
    · obtain rfl : n = k := by omega
      have HA : Hid (allF N zs = allGo (1, N) zs) := Lib.hid (by unfold allF; rw [allHas_yes (fun j hj => HJ.out j (by rw [HN.out]; exact hj))]; rfl)
      clear hlt hk
      go_wp2_with fail
      go_loopw [6, 7] (fun o i wr => ∃ (k : Nat) (r : Int) (M : Net) (sv' : Value), k ≤ n ∧ i = .int .i64 k ∧ o = .int .i64 r ∧ M.length ≤ N.length + k ∧ Hid (allGo (1, N) (zs.take k) = (r, M)) ∧ Hid (Rs A B wr h sv' M ∧ Moved (ROwn h sv) (ROwn h sv') w wr)) (fun _ i _ => n - (intOf i).toNat)
      case atStart => exact ⟨0, 1, N, sv, Nat.zero_le _, rfl, rfl, Nat.le_refl _, Lib.hid rfl, Lib.hid ⟨HS.out, Moved.refl _ _⟩⟩
      case round =>
        obtain ⟨k, r, M, sv', hk, rfl, rfl, hM, HG, HW⟩ := hrel
        obtain ⟨wo, rfl⟩ : ∃ wo : World, wo = wr := ⟨_, rfl⟩
        by_cases hlt : k < n
        · obtain ⟨a', cap', hv, -, -, hcs⟩ := HK.out.move HW.out.2
          obtain ⟨b, off, ha, hb, -, hcs⟩ := hcs (by rw [← HN.out]; omega)
          have e1 := hcs k (by rw [← HN.out]; exact hlt)
          obtain ⟨rfl, -, rfl⟩ : a = a' ∧ n = zs.length ∧ cap = cap' := by simpa using hv
          subst ha
          obtain ⟨z, hz⟩ : ∃ z, z = zs.getD k 0 := ⟨_, rfl⟩
          rw [← hz] at e1
          have HZ := Lib.hid hz
          have d1 : (k : Int) < (n : Int) := by omega
          have d2 : 0 ≤ (k : Int) := by omega
          have hl := and_len M r z
          have HG2 : Hid (allGo (1, N) (zs.take (k + 1)) = ((andF M r z).1, (andF M r z).2)) := Lib.hid (by rw [allGo_step (by rw [← HN.out]; exact hlt), HG.out, ← HZ.out])
          have hM2 : (andF M r z).2.length ≤ N.length + (k + 1) := by omega
          have HMM := Lib.hid hM2
          clear hcs hz hl hM2 hv
          go_wp2_with fail
          go_at_call 39; refine (refAnd_any A B h sv' M r z _ HW.out.1 (by omega)).mono ?_; rintro e w1 ⟨sv2, rfl, s1, s2⟩
          have HX : Hid (Rs A B w1 h sv2 (andF M r z).2 ∧ Moved (ROwn h sv) (ROwn h sv2) w w1) := Lib.hid ⟨s1, HW.out.2.trans s2⟩
          clear s1 s2
          go_wp2_with fail
          go_roundw
          case rel => exact ⟨k + 1, (andF M r z).1, (andF M r z).2, sv2, by omega, by go_num, rfl, HMM.out, HG2, HX⟩
          case measure => simp [intOf]; omega
        · obtain rfl : n = k := by omega
          have HR : Hid (RStep A B h sv (allF N zs).1 (allF N zs).2 w (.returned (.int .i64 r)) wo) := Lib.hid (by
            have e := HG.out
            rw [HN.out, List.take_length] at e
            rw [HA.out, e]
            exact ⟨sv', rfl, HW.out.1, HW.out.2⟩)
          clear hlt hk
          go_wp2_with fail
          go_ret
          exact HR.out
end Go.Proofs.Ytfdihlicmmcjjaa.aig
