/- The walks of the document's Check, Inputs and Levels. -/
import Derived.Test.YtoacedadfjoneaaA6
namespace Go.Proofs.Ytoacedadfjoneaa.aig
open Go.RowKit
open Go.Proofs.Ytoacedadfjoneaa.mem Go.Proofs.Ytoacedadfjoneaa.agf

/-- whether the i-th node is one of a good net -/
def okAt (ns : List (Int × Int)) (i : Nat) : Bool :=
  decide ((ns.getD i (0, 0)).1 < 0) || (decide ((ns.getD i (0, 0)).1 ≤ 2 * (i : Int) + 1) && decide (0 ≤ (ns.getD i (0, 0)).2) && decide ((ns.getD i (0, 0)).2 ≤ 2 * (i : Int) + 1))
theorem okAt_def (ns : List (Int × Int)) (i : Nat) : okAt ns i = (decide ((ns.getD i (0, 0)).1 < 0) || (decide ((ns.getD i (0, 0)).1 ≤ 2 * (i : Int) + 1) && decide (0 ≤ (ns.getD i (0, 0)).2) && decide ((ns.getD i (0, 0)).2 ≤ 2 * (i : Int) + 1))) := rfl
def okB (ns : List (Int × Int)) : Bool := (List.range ns.length).all (okAt ns)
theorem okB_yes {ns : List (Int × Int)} (h : ∀ i, i < ns.length → okAt ns i = true) : okB ns = true := by
  unfold okB; rw [List.all_eq_true]; intro i hi; exact h i (List.mem_range.1 hi)
theorem okB_no {ns : List (Int × Int)} {i : Nat} (hi : i < ns.length) (h : okAt ns i = false) : okB ns = false := by
  unfold okB; rw [List.all_eq_false]; exact ⟨i, List.mem_range.2 hi, by rw [h]; simp⟩
theorem okB_good {ns : List (Int × Int)} (h : okB ns = true) : GoodN ns := by
  intro i hi h0
  unfold okB at h
  rw [List.all_eq_true] at h
  have := h i (List.mem_range.2 hi)
  unfold okAt at this
  simp only [Bool.or_eq_true, Bool.and_eq_true, decide_eq_true_eq] at this
  omega
theorem good_abs {ns : List (Int × Int)} (h : GoodN ns) : agf.Good (ns.map absN) := by
  intro i a b hi
  have hl : i < ns.length := by have := (List.getElem?_eq_some_iff.1 hi).1; simpa using this
  rw [absN_at hl] at hi
  unfold absN at hi
  have hg := h i hl
  by_cases h0 : (ns.getD i (0, 0)).1 < 0
  · rw [if_pos h0] at hi; cases hi
  · rw [if_neg h0] at hi
    have e := Option.some.inj (Option.some.inj hi)
    have e1 : (ns.getD i (0, 0)).1.toNat = a := congrArg Prod.fst e
    have e2 : (ns.getD i (0, 0)).2.toNat = b := congrArg Prod.snd e
    have := hg (by omega)
    omega
def chk (ns : List (Int × Int)) : Int := if okB ns then 0 else 5
theorem KNds.form {P : Nat → Prop} {w : World} {v : Value} {ns : List (Int × Int)} (h : KNds P w v ns) : ∃ a cap, v = .slice a ns.length cap ∧ ns.length ≤ cap ∧ cap ≤ maxLen := by
  obtain ⟨a, cap, hv, h1, h2, -⟩ := h; exact ⟨a, cap, hv, h1, h2⟩
theorem KNds.at_ {P : Nat → Prop} {w : World} {a : Option Addr} {m cap : Nat} {ns : List (Int × Int)} (h : KNds P w (.slice a m cap) ns) {i : Nat} (hi : i < m) : ∃ b off, a = some ⟨b, off, none⟩ ∧ b < w.heap.size ∧
    w.cell? ⟨b, off + i * 2, none⟩ = some (.int .i64 (ns.getD i (0, 0)).1) ∧ w.cell? ⟨b, off + i * 2 + 1, none⟩ = some (.int .i64 (ns.getD i (0, 0)).2) := by
  obtain ⟨a', cap', hv, h1, h2, h3⟩ := h
  obtain ⟨rfl, rfl, rfl⟩ := Value.slice.inj hv
  obtain ⟨b, off, ha, hlt, -, hc⟩ := h3 (by omega)
  exact ⟨b, off, ha, hlt, hc i hi⟩
set_option maxHeartbeats 3200000 in
theorem refCheck_any (P : Nat → Prop) (v : Value) (ns : List (Int × Int)) (w : World) (hv : KNds P w v ns) (hn : ns.length ≤ 1000) :
    Calls Try.prog 18 #[v] w fun e w' => e = .returned (.int .i64 (chk ns)) ∧ w = w' := by
  obtain ⟨a, cap, rfl, l1, l2⟩ := hv.form
  unfold maxLen at l2
  obtain ⟨m, hm⟩ : ∃ m, m = ns.length := ⟨_, rfl⟩
  rw [← hm] at l1 hn hv ⊢
  have HV := Lib.hid hv
  have HM := Lib.hid hm
  have t0 : decide (1048576 < m) = false := by simp; omega
  clear hv hm
  go_enter Try.func18, Try.ntmps18
  go_wp2_with fail
  go_loop [3] (fun i => ∃ k : Nat, k ≤ m ∧ i = .int .i64 k ∧ Hid (∀ j, j < k → okAt ns j = true)) (fun i => m - (intOf i).toNat)
  case atStart => exact ⟨0, Nat.zero_le _, rfl, Lib.hid (fun j hj => by omega)⟩
  case round =>
    obtain ⟨k, hk, rfl, HJ⟩ := hrel
    by_cases hlt : k < m
    · obtain ⟨b, off, rfl, -, e1, e2⟩ := HV.out.at_ hlt
      have HO := Lib.hid (okAt_def ns k)
      obtain ⟨p, hp⟩ : ∃ p, p = (ns.getD k (0, 0)).1 := ⟨_, rfl⟩
      obtain ⟨q, hq⟩ : ∃ q, q = (ns.getD k (0, 0)).2 := ⟨_, rfl⟩
      rw [← hp] at e1 HO
      rw [← hq] at e2 HO
      have d1 : (k : Int) < (m : Int) := by omega
      have d2 : 0 ≤ (k : Int) := by omega
      clear hp hq
      have yes : okAt ns k = true → Hid (∀ j, j < k + 1 → okAt ns j = true) := fun h => Lib.hid (fun j hj => by
        by_cases e : j = k
        · rw [e]; exact h
        · exact HJ.out j (by omega))
      have no : okAt ns k = false → Hid (chk ns = 5) := fun h => Lib.hid (by unfold chk; rw [okB_no (by rw [← HM.out]; exact hlt) h]; rfl)
      by_cases g0 : p < 0
      · have c1 : decide (0 ≤ p) = false := by simp; omega
        have HN := yes (by rw [HO.out, decide_eq_true g0]; rfl)
        clear yes no g0
        go_wp2_with fail
        go_round
        case rel => exact ⟨k + 1, by omega, by go_num, HN⟩
        case measure => simp [intOf]; omega
      · have c1 : decide (0 ≤ p) = true := by simp; omega
        by_cases g1 : p ≤ 2 * (k : Int) + 1
        · have c2 : decide (2 * (k : Int) + 1 < p) = false := by simp; omega
          by_cases g2 : 0 ≤ q
          · have c3 : decide (q < 0) = false := by simp; omega
            by_cases g3 : q ≤ 2 * (k : Int) + 1
            · have c4 : decide (2 * (k : Int) + 1 < q) = false := by simp; omega
              have HN := yes (by rw [HO.out, decide_eq_true g1, decide_eq_true g2, decide_eq_true g3]; simp)
              clear yes no g0 g1 g2 g3
              go_wp2_with fail
              go_round
              case rel => exact ⟨k + 1, by omega, by go_num, HN⟩
              case measure => simp [intOf]; omega
            · have c4 : decide (2 * (k : Int) + 1 < q) = true := by simp; omega
              have HN := no (by rw [HO.out, decide_eq_false g0, decide_eq_false g3]; simp)
              clear yes no g0 g1 g2 g3
              go_wp2_with fail
              go_ret
              exact ⟨retI HN.out.symm, rfl⟩
          · have c3 : decide (q < 0) = true := by simp; omega
            have HN := no (by rw [HO.out, decide_eq_false g0, decide_eq_false g2]; simp)
            clear yes no g0 g1 g2
            go_wp2_with fail
            go_ret
            exact ⟨retI HN.out.symm, rfl⟩
        · have c2 : decide (2 * (k : Int) + 1 < p) = true := by simp; omega
          have HN := no (by rw [HO.out, decide_eq_false g0, decide_eq_false g1]; simp)
          clear yes no g0 g1
          go_wp2_with fail
          go_ret
          exact ⟨retI HN.out.symm, rfl⟩
    · obtain rfl : m = k := by omega
      have HN : Hid (chk ns = 0) := Lib.hid (by unfold chk; rw [okB_yes (fun i hi => HJ.out i (by rw [HM.out]; exact hi))]; rfl)
      clear hlt hk
      go_wp2_with fail
      go_ret
      exact ⟨retI HN.out.symm, rfl⟩
theorem Small_any (P : Nat → Prop) (v : Value) (ns : List (Int × Int)) (w : World) (hv : KNds P w v ns) :
    Calls Try.prog 6 #[v, .int .i64 60] w fun e w' => e = .returned (.bool (decide (ns.length ≤ 60) && okB ns)) ∧ w = w' := by
  obtain ⟨a, cap, rfl, l1, l2⟩ := hv.form
  unfold maxLen at l2
  have HV := Lib.hid hv
  obtain ⟨m, hm⟩ : ∃ m, m = ns.length := ⟨_, rfl⟩
  rw [← hm] at l1 HV ⊢
  have HM := Lib.hid hm
  clear hv hm
  by_cases h60 : m ≤ 60
  · have t0 : decide (m ≤ 60) = true := by simp; omega
    have HR : Hid ((decide (m ≤ 60) && okB ns) = (chk ns == 0)) := Lib.hid (by rw [t0]; unfold chk; cases okB ns <;> rfl)
    go_enter Try.func6, Try.ntmps6
    go_wp2_with fail
    go_at_call 18; refine (refCheck_any P _ ns _ HV.out (by rw [← HM.out]; omega)).mono ?_; rintro e w' ⟨rfl, rfl⟩
    go_wp2_with fail
    go_ret
    exact ⟨retB HR.out.symm, rfl⟩
  · have t0 : decide (m ≤ 60) = false := by simp; omega
    go_enter Try.func6, Try.ntmps6
    go_wp2_with fail
    go_ret
    exact ⟨rfl, rfl⟩
end Go.Proofs.Ytoacedadfjoneaa.aig
