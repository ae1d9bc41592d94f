/- The walks of heap's order and of what only reads. -/
import Derived.Test.YtpcpjpcejcgodaaK1
import Derived.Test.YtpcpjpcejcgodaaF2
import Derived.Deep.QuietTactic
import Derived.BigQuiet
namespace Go.Proofs.Ytpcpjpcejcgodaa.heap
open Go.RowKit
open Go.Proofs.Ytpcpjpcejcgodaa.fns Go.Proofs.Ytpcpjpcejcgodaa.hpf Go.Proofs.Ytpcpjpcejcgodaa.ints

theorem order_any (A B g s p n : Nat) (tv : Value) (S P T : List Nat) (w : World) (h : Hp A B w g s p tv n S P T) :
    Calls Try.prog 25 #[.pointer (some ⟨g, 0, none⟩)] w fun e w' => e = .returned (.func (.func 30) #[] #[.pointer (some ⟨w.heap.size, 0, none⟩)]) ∧
      One w' w.heap.size (.slice (some ⟨s, 0, none⟩) n n) ∧ Below w.heap.size w w' := by
  have HO := Lib.hid (one_new w (.slice (some ⟨s, 0, none⟩) n n) 43)
  have HB : Hid (Below w.heap.size w (w.alloc (.cells #[.slice (some ⟨s, 0, none⟩) n n] 43))) := Lib.hid ((Below.refl _ w).alloc (Nat.le_refl _) _)
  have hmf : ∀ (fn : Fn) (first cap : Array Value) (w : World), (Instr.makeFunc fn first cap).run Try.prog w = .ok (.func fn first cap) w := fun _ _ _ _ => rfl
  obtain ⟨c0, -, -, -⟩ := h.cG
  clear h
  go_enter Try.func25, Try.ntmps25
  go_wp2_with fail
  go_ret
  exact ⟨rfl, HO.out, HB.out⟩

theorem less_q {a b : Nat} {x : Bool} (h : decide (key a < key b) = x) (w : World) (ha : W64 a) (hb : W64 b) : Calls Try.prog 10 #[.float .f64 a, .float .f64 b] w fun e w' => e = .returned (.bool x) ∧ w' = w :=
  (score.Less_of h ha hb w).mono fun _ _ ⟨h1, h2⟩ => ⟨h1, h2.symm⟩
set_option maxHeartbeats 1600000 in
theorem ahead_any (A B g s p n c a b : Nat) (tv : Value) (S P T : List Nat) (w : World) (h : Hp A B w g s p tv n S P T) (hS : AllW S) (hc : One w c (.slice (some ⟨s, 0, none⟩) n n)) (ha : a < n) (hb : b < n) (hn : n ≤ 1048576) :
    Calls Try.prog 30 #[.int .i64 a, .int .i64 b, .pointer (some ⟨c, 0, none⟩)] w fun e w' => e = .returned (.bool (ah S a b)) ∧ ∃ q, w' = w.drewN q := by
  obtain ⟨c0, -⟩ := hc.cells
  obtain ⟨x1, -⟩ := h.cS ha
  obtain ⟨x2, -⟩ := h.cS hb
  have wa := hS a
  have wb := hS b
  have G := @ah_gt S a b hS (by omega)
  have L := @ah_lt S a b hS (by omega)
  have E := @ah_eq S a b
  obtain ⟨x, hx⟩ : ∃ x, x = S.getD a 0 := ⟨_, rfl⟩
  obtain ⟨y, hy⟩ : ∃ y, y = S.getD b 0 := ⟨_, rfl⟩
  rw [← hx] at x1 wa G L E
  rw [← hy] at x2 wb G L E
  have b1 : (a : Int) < (n : Int) := by omega
  have b2 : (b : Int) < (n : Int) := by omega
  have b3 : 0 ≤ (a : Int) := by omega
  have b4 : 0 ≤ (b : Int) := by omega
  have WA := Lib.hid wa
  have WB := Lib.hid wb
  clear hx hy h hS hc wa wb
  by_cases k1 : key y < key x
  · have K1 := Lib.hid (decide_eq_true k1)
    have R := Lib.hid (G (decide_eq_true k1))
    clear G L E k1
    go_enter Try.func30, Try.ntmps30
    go_wp2_with fail
    go_quiet ((first | (go_at_call 10; exact Calls.quiet_of_same (less_q K1.out _ WB.out WA.out)) | fail))
    go_wp2_with fail
    go_ret
    exact ⟨score.retB R.out.symm, _, rfl⟩
  · have K1 := Lib.hid (decide_eq_false k1)
    by_cases k2 : key x < key y
    · have K2 := Lib.hid (decide_eq_true k2)
      have R := Lib.hid (L (decide_eq_true k2))
      clear G L E k1 k2
      go_enter Try.func30, Try.ntmps30
      go_wp2_with fail
      go_quiet ((first | (go_at_call 10; exact Calls.quiet_of_same (less_q K1.out _ WB.out WA.out)) | fail))
      obtain ⟨W, hW⟩ : ∃ W : World, W = w.drewN nq := ⟨_, rfl⟩
      have z0 : W.cell? ⟨c, 0, none⟩ = some (.slice (some ⟨s, 0, none⟩) n n) := hW ▸ c0
      have z1 : W.cell? ⟨s, a, none⟩ = some (.float .f64 x) := hW ▸ x1
      have z2 : W.cell? ⟨s, b, none⟩ = some (.float .f64 y) := hW ▸ x2
      rw [← hW]
      have HW := Lib.hid hW
      clear hW c0 x1 x2
      go_wp2_with fail
      go_quiet ((first | (go_at_call 10; exact Calls.quiet_of_same (less_q K2.out _ WA.out WB.out)) | fail))
      go_wp2_with fail
      go_ret
      exact ⟨score.retB R.out.symm, _, by rw [HW.out, World.drewN_drewN]⟩
    · have K2 := Lib.hid (decide_eq_false k2)
      have R := Lib.hid (E (decide_eq_false k1) (decide_eq_false k2))
      clear G L E k1 k2
      go_enter Try.func30, Try.ntmps30
      go_wp2_with fail
      go_quiet ((first | (go_at_call 10; exact Calls.quiet_of_same (less_q K1.out _ WB.out WA.out)) | fail))
      obtain ⟨W, hW⟩ : ∃ W : World, W = w.drewN nq := ⟨_, rfl⟩
      have z0 : W.cell? ⟨c, 0, none⟩ = some (.slice (some ⟨s, 0, none⟩) n n) := hW ▸ c0
      have z1 : W.cell? ⟨s, a, none⟩ = some (.float .f64 x) := hW ▸ x1
      have z2 : W.cell? ⟨s, b, none⟩ = some (.float .f64 y) := hW ▸ x2
      rw [← hW]
      have HW := Lib.hid hW
      clear hW c0 x1 x2
      go_wp2_with fail
      go_quiet ((first | (go_at_call 10; exact Calls.quiet_of_same (less_q K2.out _ WA.out WB.out)) | fail))
      go_wp2_with fail
      go_ret
      exact ⟨score.retB (by rw [R.out]), _, by rw [HW.out, World.drewN_drewN]⟩
end Go.Proofs.Ytpcpjpcejcgodaa.heap
