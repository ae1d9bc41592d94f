/- The walk of the document's And. -/
import Derived.Test.YtfdihlicmmcjjaaA2
namespace Go.Proofs.Ytfdihlicmmcjjaa.aig
open Go.RowKit
open Go.Proofs.Ytfdihlicmmcjjaa.mem Go.Proofs.Ytfdihlicmmcjjaa.agf

theorem seek_first {N : Net} {g : Nat × Nat} {k : Nat} (h : N[k]? = some (some g)) (hj : ∀ j, j < k → N[j]? ≠ some (some g)) : seek N g = some k := by
  obtain ⟨h1, h2⟩ := List.getElem?_eq_some_iff.1 h
  refine List.findIdx?_eq_some_iff_getElem.2 ⟨h1, by rw [h2]; simp, fun j hjk => ?_⟩
  have := hj j hjk
  rw [List.getElem?_eq_getElem (by omega)] at this
  simpa using this
theorem seek_never {N : Net} {g : Nat × Nat} (hj : ∀ j, j < N.length → N[j]? ≠ some (some g)) : seek N g = none := by
  refine List.findIdx?_eq_none_iff.2 fun x hx => ?_
  obtain ⟨j, h1, rfl⟩ := List.getElem_of_mem hx
  have := hj j h1
  rw [List.getElem?_eq_getElem h1] at this
  simpa using this
/-- whether a node is the gate of x and y -/
theorem conc_is {N : Net} {k x y : Nat} (hk : k < N.length) : (((N.map conc).getD k (0, 0)).1 = (x : Int) ∧ ((N.map conc).getD k (0, 0)).2 = (y : Int)) ↔ N[k]? = some (some (x, y)) := by
  have e : (N.map conc).getD k (0, 0) = conc N[k] := by simp [List.getD, hk]
  rw [e, List.getElem?_eq_getElem hk]
  cases hn : N[k] with
  | none => simp [conc]
  | some g => obtain ⟨a, b⟩ := g; simp [conc]; omega
/-- what And does once it is past its first tests -/
theorem andF_put {N : Net} {a b : Int} (ha : hasB N.length a = true) (hb : hasB N.length b = true) (h0 : ¬ (a = 0 ∨ b = 0 ∨ a = nt b)) (h1 : ¬ (a = 1 ∨ a = b)) (h2 : ¬ b = 1) :
    andF N a b = putG N (min a b).toNat (max a b).toNat := by
  unfold andF
  rw [ha, hb]
  simp only [Bool.and_self, if_true]
  rw [if_neg h0, if_neg h1, if_neg h2]
theorem andF_no {N : Net} {a b : Int} (h : hasB N.length a = false ∨ hasB N.length b = false) : andF N a b = (-1, N) := by
  unfold andF
  rcases h with h | h <;> rw [h] <;> simp
theorem andF_zero {N : Net} {a b : Int} (ha : hasB N.length a = true) (hb : hasB N.length b = true) (h0 : a = 0 ∨ b = 0 ∨ a = nt b) : andF N a b = (0, N) := by
  unfold andF
  rw [ha, hb]
  simp only [Bool.and_self, if_true]
  rw [if_pos h0]
theorem andF_right {N : Net} {a b : Int} (ha : hasB N.length a = true) (hb : hasB N.length b = true) (h0 : ¬ (a = 0 ∨ b = 0 ∨ a = nt b)) (h1 : a = 1 ∨ a = b) : andF N a b = (b, N) := by
  unfold andF
  rw [ha, hb]
  simp only [Bool.and_self, if_true]
  rw [if_neg h0, if_pos h1]
theorem andF_left {N : Net} {a b : Int} (ha : hasB N.length a = true) (hb : hasB N.length b = true) (h0 : ¬ (a = 0 ∨ b = 0 ∨ a = nt b)) (h1 : ¬ (a = 1 ∨ a = b)) (h2 : b = 1) : andF N a b = (a, N) := by
  unfold andF
  rw [ha, hb]
  simp only [Bool.and_self, if_true]
  rw [if_neg h0, if_neg h1, if_pos h2]
theorem RStep.same {A B h : Nat} {sv : Value} {r : Int} {N M : Net} {w : World} (s : Rs A B w h sv N) (hM : M = N) : RStep A B h sv r M w (.returned (.int .i64 r)) w :=
  ⟨sv, rfl, hM ▸ s, Moved.refl _ _⟩
theorem refHas_of {A B h : Nat} {sv : Value} {N : Net} {l : Int} {r : Bool} (hr : hasB N.length l = r) (w : World) (s : Rs A B w h sv N) (hN : N.length ≤ 1000000) :
    Calls Try.prog 53 #[.pointer (some ⟨h, 0, none⟩), .int .i64 l] w fun e w' => e = .returned (.bool r) ∧ w = w' := by
  have := refHas_any A B h sv N l w s hN; rw [hr] at this; exact this
set_option maxRecDepth 100000 in
set_option maxHeartbeats 3200000 in
theorem refAnd_any (A B h : Nat) (sv : Value) (N : Net) (a b : Int) (w : World) (s : Rs A B w h sv N) (hN : N.length ≤ 1000000) :
    Calls Try.prog 39 #[.pointer (some ⟨h, 0, none⟩), .int .i64 a, .int .i64 b] w (RStep A B h sv (andF N a b).1 (andF N a b).2 w) := by
  have HS := Lib.hid s
  cases ha : hasB N.length a
  · have HR : Hid (RStep A B h sv (andF N a b).1 (andF N a b).2 w (.returned (.int .i64 (-1))) w) := Lib.hid (by rw [andF_no (.inl ha)]; exact RStep.same s rfl)
    have HA := Lib.hid ha
    clear s ha
    go_enter Try.func39, Try.ntmps39
    go_wp2_with fail
    go_at_call 53; refine (refHas_of HA.out _ HS.out hN).mono ?_; rintro e w' ⟨rfl, rfl⟩
    go_wp2_with fail
    go_ret
    exact HR.out
  · cases hb : hasB N.length b
    · have HR : Hid (RStep A B h sv (andF N a b).1 (andF N a b).2 w (.returned (.int .i64 (-1))) w) := Lib.hid (by rw [andF_no (.inr hb)]; exact RStep.same s rfl)
      have HA := Lib.hid ha
      have HB := Lib.hid hb
      clear s ha hb
      go_enter Try.func39, Try.ntmps39
      go_wp2_with fail
      go_at_call 53; refine (refHas_of HA.out _ HS.out hN).mono ?_; rintro e w' ⟨rfl, rfl⟩
      go_wp2_with fail
      go_at_call 53; refine (refHas_of HB.out _ HS.out hN).mono ?_; rintro e w' ⟨rfl, rfl⟩
      go_wp2_with fail
      go_ret
      exact HR.out
    · obtain ⟨a0, a1⟩ := has_iff.1 ha
      obtain ⟨b0, b1⟩ := has_iff.1 hb
      have HA := Lib.hid ha
      have HB := Lib.hid hb
      have a2 : a ≤ 2000001 := by omega
      have b2 : b ≤ 2000001 := by omega
      have HA1 := Lib.hid a1
      have HB1 := Lib.hid b1
      clear s ha hb a1 b1
      by_cases z : a = 0 ∨ b = 0 ∨ a = nt b
      · have HR : Hid (RStep A B h sv (andF N a b).1 (andF N a b).2 w (.returned (.int .i64 0)) w) := Lib.hid (by rw [andF_zero HA.out HB.out z]; exact RStep.same HS.out rfl)
        by_cases z1 : a = 0
        · have c1 : (a == 0) = true := by simpa using z1
          clear z z1
          go_enter Try.func39, Try.ntmps39
          go_wp2_with fail
          go_at_call 53; refine (refHas_of HA.out _ HS.out hN).mono ?_; rintro e w' ⟨rfl, rfl⟩
          go_wp2_with fail
          go_at_call 53; refine (refHas_of HB.out _ HS.out hN).mono ?_; rintro e w' ⟨rfl, rfl⟩
          go_wp2_with fail
          go_ret
          exact HR.out
        · have c1 : (a == 0) = false := by simpa using z1
          by_cases z2 : b = 0
          · have c2 : (b == 0) = true := by simpa using z2
            clear z z1 z2
            go_enter Try.func39, Try.ntmps39
            go_wp2_with fail
            go_at_call 53; refine (refHas_of HA.out _ HS.out hN).mono ?_; rintro e w' ⟨rfl, rfl⟩
            go_wp2_with fail
            go_at_call 53; refine (refHas_of HB.out _ HS.out hN).mono ?_; rintro e w' ⟨rfl, rfl⟩
            go_wp2_with fail
            go_ret
            exact HR.out
          · have c2 : (b == 0) = false := by simpa using z2
            have z3 : a = nt b := by rcases z with e | e | e; exact absurd e z1; exact absurd e z2; exact e
            have HNT := Lib.hid z3
            have c3 : (a == a) = true := by simp
            clear z z1 z2 z3
            go_enter Try.func39, Try.ntmps39
            go_wp2_with fail
            go_at_call 53; refine (refHas_of HA.out _ HS.out hN).mono ?_; rintro e w' ⟨rfl, rfl⟩
            go_wp2_with fail
            go_at_call 53; refine (refHas_of HB.out _ HS.out hN).mono ?_; rintro e w' ⟨rfl, rfl⟩
            go_wp2_with fail
            go_at_call 54; refine (refNot_any b _ (by omega)).mono ?_; rintro e w' ⟨rfl, rfl⟩
            rw [← HNT.out]
            go_wp2_with fail
            go_ret
            exact HR.out
      · have z1 : ¬ a = 0 := fun e => z (.inl e)
        have z2 : ¬ b = 0 := fun e => z (.inr (.inl e))
        have z3 : ¬ a = nt b := fun e => z (.inr (.inr e))
        have c1 : (a == 0) = false := by simpa using z1
        have c2 : (b == 0) = false := by simpa using z2
        have c3 : (a == nt b) = false := by simpa using z3
        have HZ := Lib.hid z
        clear z z1 z2 z3
        by_cases o : a = 1 ∨ a = b
        · have HR : Hid (RStep A B h sv (andF N a b).1 (andF N a b).2 w (.returned (.int .i64 b)) w) := Lib.hid (by rw [andF_right HA.out HB.out HZ.out o]; exact RStep.same HS.out rfl)
          by_cases o1 : a = 1
          · have c4 : (a == 1) = true := by simpa using o1
            clear o o1
            go_enter Try.func39, Try.ntmps39
            go_wp2_with fail
            go_at_call 53; refine (refHas_of HA.out _ HS.out hN).mono ?_; rintro e w' ⟨rfl, rfl⟩
            go_wp2_with fail
            go_at_call 53; refine (refHas_of HB.out _ HS.out hN).mono ?_; rintro e w' ⟨rfl, rfl⟩
            go_wp2_with fail
            go_at_call 54; refine (refNot_any b _ (by omega)).mono ?_; rintro e w' ⟨rfl, rfl⟩
            go_wp2_with fail
            go_ret
            exact HR.out
          · have c4 : (a == 1) = false := by simpa using o1
            have c5 : (a == b) = true := by rcases o with e | e; exact absurd e o1; simpa using e
            clear o o1
            go_enter Try.func39, Try.ntmps39
            go_wp2_with fail
            go_at_call 53; refine (refHas_of HA.out _ HS.out hN).mono ?_; rintro e w' ⟨rfl, rfl⟩
            go_wp2_with fail
            go_at_call 53; refine (refHas_of HB.out _ HS.out hN).mono ?_; rintro e w' ⟨rfl, rfl⟩
            go_wp2_with fail
            go_at_call 54; refine (refNot_any b _ (by omega)).mono ?_; rintro e w' ⟨rfl, rfl⟩
            go_wp2_with fail
            go_ret
            exact HR.out
        · have c4 : (a == 1) = false := by simpa using fun e => o (.inl e)
          have c5 : (a == b) = false := by simpa using fun e => o (.inr e)
          by_cases o2 : b = 1
          · have HR : Hid (RStep A B h sv (andF N a b).1 (andF N a b).2 w (.returned (.int .i64 a)) w) := Lib.hid (by rw [andF_left HA.out HB.out HZ.out o o2]; exact RStep.same HS.out rfl)
            have c6 : (b == 1) = true := by simpa using o2
            clear o o2
            go_enter Try.func39, Try.ntmps39
            go_wp2_with fail
            go_at_call 53; refine (refHas_of HA.out _ HS.out hN).mono ?_; rintro e w' ⟨rfl, rfl⟩
            go_wp2_with fail
            go_at_call 53; refine (refHas_of HB.out _ HS.out hN).mono ?_; rintro e w' ⟨rfl, rfl⟩
            go_wp2_with fail
            go_at_call 54; refine (refNot_any b _ (by omega)).mono ?_; rintro e w' ⟨rfl, rfl⟩
            go_wp2_with fail
            go_ret
            exact HR.out
          · have c6 : (b == 1) = false := by simpa using o2
            obtain ⟨x, hx⟩ : ∃ x, x = (min a b).toNat := ⟨_, rfl⟩
            obtain ⟨y, hy⟩ : ∃ y, y = (max a b).toNat := ⟨_, rfl⟩
            have HP : Hid (andF N a b = putG N x y) := Lib.hid (by rw [hx, hy]; exact andF_put HA.out HB.out HZ.out o o2)
            have HX1 : Hid ((a ≤ b → (x : Int) = a ∧ (y : Int) = b) ∧ (b < a → (x : Int) = b ∧ (y : Int) = a)) := Lib.hid (by omega)
            clear o o2 hx hy
            go_enter Try.func39, Try.ntmps39
            go_wp2_with fail
            go_at_call 53; refine (refHas_of HA.out _ HS.out hN).mono ?_; rintro e w' ⟨rfl, rfl⟩
            go_wp2_with fail
            go_at_call 53; refine (refHas_of HB.out _ HS.out hN).mono ?_; rintro e w' ⟨rfl, rfl⟩
            go_wp2_with fail
            go_at_call 54; refine (refNot_any b _ (by omega)).mono ?_; rintro e w' ⟨rfl, rfl⟩
            go_upto_region 9 with fail
            go_cut [43] (fun s43 wx => s43 = .bool (decide (b < a)) ∧ wx = w)
            case first =>
              go_wp2_with fail
              go_meet
              exact ⟨rfl, rfl⟩
            case rest =>
              obtain ⟨rfl, hwc⟩ := hcut
              obtain rfl := hwc
              go_upto_if 43 with fail
              go_cut [1, 2] (fun s1 s2 wx => s1 = .int .i64 (x : Int) ∧ s2 = .int .i64 (y : Int) ∧ wx = wc)
              case first =>
                by_cases hab : b < a
                · have k1 : decide (b < a) = true := decide_eq_true hab
                  have HY := Lib.hid (HX1.out.2 hab)
                  go_wp2_with fail
                  go_meet
                  exact ⟨by rw [HY.out.1], by rw [HY.out.2], rfl⟩
                · have k1 : decide (b < a) = false := decide_eq_false hab
                  have HY := Lib.hid (HX1.out.1 (by omega))
                  go_wp2_with fail
                  go_meet
                  exact ⟨by rw [HY.out.1], by rw [HY.out.2], rfl⟩
              case rest =>
                obtain ⟨rfl, rfl, hwc⟩ := hcut
                obtain rfl := hwc
                obtain ⟨W, rfl⟩ : ∃ W : World, W = wc := ⟨_, rfl⟩
                obtain ⟨cg, -⟩ := HS.out.one.cells
                obtain ⟨av, cv, hsv⟩ := HS.out.form
                have HSV := Lib.hid hsv
                obtain ⟨m, hm⟩ : ∃ m, m = N.length := ⟨_, rfl⟩
                rw [hsv, ← hm] at cg
                have HM := Lib.hid hm
                have hmN : m ≤ 1000000 := by omega
                clear hsv hm a0 b0 a2 b2 c1 c2 c3 c4 c5 c6
                go_wp2_with fail
                go_loop [7] (fun i => ∃ k : Nat, k ≤ m ∧ i = .int .i64 k ∧ Hid (∀ j, j < k → N[j]? ≠ some (some (x, y)))) (fun i => m - (intOf i).toNat)
                case atStart => exact ⟨0, Nat.zero_le _, rfl, Lib.hid (fun j hj => by omega)⟩
                case round =>
                  obtain ⟨k, hk, rfl, HJ⟩ := hrel
                  by_cases hlt : k < m
                  · obtain ⟨t, c, hsv, e1, e2⟩ := HS.out.at_ (i := k) (by rw [← HM.out]; exact hlt)
                    obtain ⟨hav, rfl⟩ : av = some ⟨t, 0, none⟩ ∧ cv = c := by have := HSV.out.symm.trans hsv; simpa using this
                    have HAV := Lib.hid hav
                    have HCI := Lib.hid (conc_is (N := N) (k := k) (x := x) (y := y) (by rw [← HM.out]; exact hlt))
                    obtain ⟨p, hp⟩ : ∃ p, p = ((N.map conc).getD k (0, 0)).1 := ⟨_, rfl⟩
                    obtain ⟨q, hq⟩ : ∃ q, q = ((N.map conc).getD k (0, 0)).2 := ⟨_, rfl⟩
                    rw [← hp] at e1 HCI
                    rw [← hq] at e2 HCI
                    rw [hav] at cg
                    have d1 : (k : Int) < (m : Int) := by omega
                    have d2 : 0 ≤ (k : Int) := by omega
                    clear hsv hav hp hq
                    by_cases hf : N[k]? = some (some (x, y))
                    · obtain ⟨f1, f2⟩ := HCI.out.2 hf
                      have c7 : (p == (x : Int)) = true := by simpa using f1
                      have c8 : (q == (y : Int)) = true := by simpa using f2
                      have HR : Hid (RStep A B h sv (andF N a b).1 (andF N a b).2 W (.returned (.int .i64 (2 * ((k : Int) + 1)))) W) := Lib.hid (by
                        have e : putG N x y = (2 * ((k : Int) + 1), N) := by unfold putG; rw [seek_first hf HJ.out]
                        rw [HP.out, e]; exact RStep.same HS.out rfl)
                      clear hf f1 f2
                      go_wp2_with fail
                      go_ret
                      exact HR.out
                    · have HN : Hid (∀ j, j < k + 1 → N[j]? ≠ some (some (x, y))) := Lib.hid (fun j hj => by
                        by_cases e : j = k
                        · rw [e]; exact hf
                        · exact HJ.out j (by omega))
                      by_cases hpx : p = (x : Int)
                      · have c7 : (p == (x : Int)) = true := by simpa using hpx
                        have c8 : (q == (y : Int)) = false := by simpa using fun e => hf (HCI.out.1 ⟨hpx, e⟩)
                        clear hf hpx
                        go_wp2_with fail
                        go_round
                        case rel => exact ⟨k + 1, by omega, by go_num, HN⟩
                        case measure => simp [intOf]; omega
                      · have c7 : (p == (x : Int)) = false := by simpa using hpx
                        clear hf hpx
                        go_wp2_with fail
                        go_round
                        case rel => exact ⟨k + 1, by omega, by go_num, HN⟩
                        case measure => simp [intOf]; omega
                  · obtain rfl : m = k := by omega
                    have HE : Hid (andF N a b = (2 * ((N.length : Int) + 1), N ++ [some (x, y)])) := Lib.hid (by
                      rw [HP.out]
                      unfold putG
                      rw [seek_never (fun j hj => HJ.out j (by rw [HM.out]; exact hj))])
                    have HC := Lib.hid (refPut_any A B h sv N (some (x, y)) W HS.out hN)
                    clear hlt hk
                    go_wp2_with fail
                    go_at_call 52; refine HC.out.mono ?_; rintro e w1 ⟨sv', rfl, s1, s2⟩
                    have HR : Hid (RStep A B h sv (andF N a b).1 (andF N a b).2 W (.returned (.int .i64 (2 * ((N.length : Int) + 1)))) w1) := Lib.hid (by rw [HE.out]; exact ⟨sv', rfl, s1, s2⟩)
                    clear s1 s2
                    go_wp2_with fail
                    go_ret
                    exact HR.out
end Go.Proofs.Ytfdihlicmmcjjaa.aig
