/- The walk of the document's Same, of nets that are. -/
import Derived.Test.YtfdihlicmmcjjaaA9
namespace Go.Proofs.Ytfdihlicmmcjjaa.aig
open Go.RowKit
open Go.Proofs.Ytfdihlicmmcjjaa.mem Go.Proofs.Ytfdihlicmmcjjaa.agf

theorem node_neq (a b c d : Int) (w : World) : (binOp .neq 54 (.agg #[.int .i64 a, .int .i64 b]) (.agg #[.int .i64 c, .int .i64 d])).run Try.prog w = .ok (.bool (!(a == c && b == d))) w := by
  have u3 := Try.underlying3
  have a3 := Try.isAgg3
  have z3 := Try.sizeOf3
  have hS : Try.prog.underlying 54 = some (.struct (Try.prog.fieldsOf 54)) := by kernel_rfl
  have hp : Try.prog.stoodInHeld 54 = false := by kernel_rfl
  rw [run_neq_struct, show (10000 : Nat) = 9999 + 1 from rfl, run_equalIn_agg w 9999 54 _ _ hS hp]
  simp only [Program.fieldsOf, Try.underlying54]
  go_simp
  by_cases h1 : a = c <;> by_cases h2 : b = d <;> simp [h1, h2]
/-- two nodes that are one -/
def SameN (p q : Int × Int) : Prop := (p.1 < 0 ∧ q.1 < 0) ∨ p = q
set_option maxHeartbeats 3200000 in
theorem refSame_yes (P Q : Nat → Prop) (v u : Value) (ns ms : List (Int × Int)) (w : World) (hv : KNds P w v ns) (hu : KNds Q w u ms) (hl : ns.length = ms.length) (hn : ns.length ≤ 5000)
    (hs : ∀ i, i < ns.length → SameN (ns.getD i (0, 0)) (ms.getD i (0, 0))) :
    Calls Try.prog 15 #[v, u] w fun e w' => e = .returned (.bool true) ∧ Below w.heap.size w w' := by
  have hgd : Try.prog.eqGuardType Try.prog.depth 54 = false := by kernel_rfl
  have hne := node_neq
  obtain ⟨a, cap, rfl, l1, l2⟩ := hv.form
  obtain ⟨a2, cap2, rfl, l3, l4⟩ := hu.form
  unfold maxLen at l2 l4
  rw [← hl] at hu l3 ⊢
  obtain ⟨m, hm⟩ : ∃ m, m = ns.length := ⟨_, rfl⟩
  rw [← hm] at l1 l3 hn hv hu hs ⊢
  have HV := Lib.hid hv
  have HU := Lib.hid hu
  have HS := Lib.hid hs
  have t0 : ((m : Int) != (m : Int)) = false := by simp
  clear hv hu hs hl hm
  go_enter Try.func15, Try.ntmps15
  go_wp2_with fail
  go_loopw [5] (fun i wr => ∃ k : Nat, k ≤ m ∧ i = .int .i64 k ∧ Hid (∃ q, wr = w.drewN q)) (fun i _ => m - (intOf i).toNat)
  case atStart => exact ⟨0, Nat.zero_le _, rfl, Lib.hid ⟨0, rfl⟩⟩
  case round =>
    obtain ⟨k, hk, rfl, HQ⟩ := hrel
    obtain ⟨wo, rfl⟩ : ∃ wo : World, wo = wr := ⟨_, rfl⟩
    have hb : Below w.heap.size w wo := by obtain ⟨q, e⟩ := HQ.out; rw [e]; exact below_drewN (Below.refl _ _) q
    by_cases hlt : k < m
    · obtain ⟨b, off, rfl, -, e1, e2⟩ := (HV.out.on hb).at_ hlt
      obtain ⟨b', off', rfl, -, e3, e4⟩ := (HU.out.on hb).at_ hlt
      have hsn := HS.out k hlt
      obtain ⟨p, hp⟩ : ∃ p, p = ns.getD k (0, 0) := ⟨_, rfl⟩
      obtain ⟨q, hq⟩ : ∃ q, q = ms.getD k (0, 0) := ⟨_, rfl⟩
      rw [← hp] at e1 e2 hsn
      rw [← hq] at e3 e4 hsn
      obtain ⟨p1, p2⟩ := p
      obtain ⟨q1, q2⟩ := q
      simp only at e1 e2 e3 e4
      have d1 : (k : Int) < (m : Int) := by omega
      have d2 : 0 ≤ (k : Int) := by omega
      clear hp hq hb
      by_cases g : p1 < 0 ∧ q1 < 0
      · have c1 : decide (p1 < 0) = true := decide_eq_true g.1
        have c2 : decide (q1 < 0) = true := decide_eq_true g.2
        clear g hsn
        go_wp2_with fail
        go_roundw
        case rel => exact ⟨k + 1, by omega, by go_num, HQ⟩
        case measure => simp [intOf]; omega
      · have hpq : (p1, p2) = (q1, q2) := by
          rcases hsn with h | h
          · exact absurd h g
          · exact h
        obtain ⟨rfl, rfl⟩ := Prod.mk.inj hpq
        have c1 : decide (p1 < 0) = false := by simp; omega
        have c3 : (p1 == p1 && p2 == p2) = true := by simp
        clear g hsn hpq
        go_wp2_with fail
        go_quiet (fail)
        go_wp2_with fail
        go_roundw
        case rel => exact ⟨k + 1, by omega, by go_num, Lib.hid (by obtain ⟨q, e⟩ := HQ.out; exact ⟨q + nq, by rw [e, World.drewN_drewN]⟩)⟩
        case measure => simp [intOf]; omega
    · obtain rfl : m = k := by omega
      have HE := Lib.hid hb
      clear hlt hk hb
      go_wp2_with fail
      go_ret
      exact ⟨rfl, HE.out⟩
end Go.Proofs.Ytfdihlicmmcjjaa.aig
