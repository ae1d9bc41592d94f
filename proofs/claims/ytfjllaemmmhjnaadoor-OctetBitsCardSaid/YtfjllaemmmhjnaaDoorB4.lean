/- The walks on truths and signs: fourth part: two rows compared. -/
import Derived.Test.YtfjllaemmmhjnaaDoorB3
import Derived.WalkSmall
namespace Go.Proofs.YtfjllaemmmhjnaaDoor.oct
open Go.RowKit Go.PlainAid
open Go.Proofs.YtfjllaemmmhjnaaDoor.fns
set_option linter.unusedVariables false

theorem ret_bool {a b : Bool} (h : a = b) : Ending.returned (.bool a) = .returned (.bool b) := by rw [h]

theorem same_len (bs cs : List Bool) (v u : Value) (w : World) (hv : Bools w v bs) (hu : Bools w u cs) (h : bs.length ≠ cs.length) (hm : bs.length ≤ 2000) (hn : cs.length ≤ 2000) :
    Calls Tryd.prog 24 #[v, u] w fun e w' => e = .returned (.bool false) ∧ w = w' := by
  obtain ⟨a, cap, rfl, -, -, -⟩ := hv
  obtain ⟨b, cap', rfl, -, -, -⟩ := hu
  obtain ⟨n, hn1⟩ : ∃ n, n = bs.length := ⟨_, rfl⟩
  obtain ⟨m, hm1⟩ : ∃ m, m = cs.length := ⟨_, rfl⟩
  have c1 : ((n : Int) != (m : Int)) = true := by simp; omega
  rw [← hn1, ← hm1]
  clear hn1 hm1 h
  go_enter Tryd.func24, Tryd.ntmps24
  go_wp2
  go_ret
  exact ⟨rfl, rfl⟩

def SameTo (bs cs : List Bool) (k : Nat) : Prop := ∀ i, i < k → bs.getD i false = cs.getD i false
theorem same_of {bs cs : List Bool} (h : bs.length = cs.length) (hs : SameTo bs cs bs.length) : bs = cs := by
  apply List.ext_getElem h
  intro i h1 h2
  have := hs i h1
  simpa [List.getD, h1, h2] using this

set_option maxHeartbeats 400000 in
theorem same_any (bs cs : List Bool) (v u : Value) (w : World) (hv : Bools w v bs) (hu : Bools w u cs) (hm : bs.length ≤ 2000) (hn : cs.length ≤ 2000) :
    Calls Tryd.prog 24 #[v, u] w fun e w' => e = .returned (.bool (decide (bs = cs))) ∧ Below w.heap.size w w' := by
  by_cases hl : bs.length = cs.length
  · obtain ⟨a, cap, rfl, hc1, hc2, hcell⟩ := hv
    obtain ⟨a', cap', rfl, hd1, hd2, hdell⟩ := hu
    unfold maxLen at hc2 hd2
    obtain ⟨n, hn⟩ : ∃ n, n = bs.length := ⟨_, rfl⟩
    rw [← hl, ← hn]
    rw [← hl, ← hn] at hd1
    have HN := Lib.hid hn
    have HL := Lib.hid hl
    have HC := Lib.hid hcell
    have HD := Lib.hid hdell
    have hn1 : n ≤ 2000 := by omega
    have hn2 : n ≤ cap := by omega
    clear hcell hdell hn hm hc1 hl
    go_enter Tryd.func24, Tryd.ntmps24
    go_wp2
    go_loopw [5] (fun i wr => ∃ (k d : Nat), k ≤ n ∧ i = .int .i64 k ∧ SameTo bs cs k ∧ wr = w.drewN d) (fun i _ => n - (intOf i).toNat)
    case atStart => exact ⟨0, 0, Nat.zero_le _, rfl, fun i hi => by omega, by simp [World.drewN_zero]⟩
    case round =>
      obtain ⟨k, d, hk, rfl, hs, rfl⟩ := hrel
      have HS := Lib.hid hs
      clear hs
      by_cases h1 : k < n
      · have h1' := h1
        rw [HN.out] at h1'
        have h1'' := h1'
        rw [HL.out] at h1''
        obtain ⟨b, off, rfl, hbs, hcs⟩ := HC.out (by omega)
        obtain ⟨b', off', rfl, hbs', hcs'⟩ := HD.out (by omega)
        have hc := hcs k h1'
        have hd := hcs' k h1''
        have hki : (k : Int) < (n : Int) := by omega
        obtain ⟨x, hx⟩ : ∃ x, x = bs.getD k false := ⟨_, rfl⟩
        obtain ⟨y, hy⟩ : ∃ y, y = cs.getD k false := ⟨_, rfl⟩
        rw [← hx] at hc
        rw [← hy] at hd
        have HX := Lib.hid hx
        have HY := Lib.hid hy
        clear hcs hcs' h1' h1'' hx hy
        by_cases hxy : x = y
        · subst hxy
          go_wp2
          go_quiet (fail)
          go_wp2
          refine ⟨⟨k + 1, d + nq, by omega, by go_num, fun i hi => ?_, rfl⟩, by simp [intOf]; omega⟩
          by_cases e : i = k
          · rw [e]; exact HX.out.symm.trans HY.out
          · exact HS.out i (by omega)
        · have hxy' : (x != y) = true := by simpa using hxy
          have hne : bs ≠ cs := fun e => hxy (by rw [HX.out, HY.out, e])
          have HE := Lib.hid (show decide (bs = cs) = false by simpa using hne)
          clear hne hxy'
          cases x <;> cases y
          case false.false => exact absurd rfl hxy
          case true.true => exact absurd rfl hxy
          all_goals
            clear hxy
            go_wp2
            go_quiet (fail)
            go_wp2
            go_ret
            refine ⟨ret_bool HE.out.symm, ?_⟩
            exact below_drewN (below_drewN (Below.refl _ _) _) _
      · have HE := Lib.hid (show decide (bs = cs) = true by
          have := same_of HL.out (fun i hi => HS.out i (by rw [← HN.out] at hi; omega))
          simpa using this)
        have hf : decide ((k : Int) < (n : Int)) = false := by simp; omega
        go_wp2
        go_ret
        exact ⟨ret_bool HE.out.symm, below_drewN (Below.refl _ _) _⟩
  · have e : decide (bs = cs) = false := by simp; intro h; exact hl (by rw [h])
    rw [e]
    exact (same_len bs cs v u w hv hu hl hm hn).mono fun _ _ ⟨h1, h2⟩ => ⟨h1, h2 ▸ Below.refl _ _⟩
end Go.Proofs.YtfjllaemmmhjnaaDoor.oct
