import Derived.Test.YtbpjflghkkkenaaMg2
import Derived.Lib.SmallJoins
import Derived.Deep.QuietTactic
import Derived.BigQuiet
/- The walk of the document's example. -/
namespace Go.Proofs.Ytbpjflghkkkenaa.score
open Go.RowKit
open Go.Proofs.Ytbpjflghkkkenaa.fns

end Go.Proofs.Ytbpjflghkkkenaa.score

/- The walks of heap's order and of what only reads. -/
namespace Go.Proofs.Ytbpjflghkkkenaa.heap
open Go.RowKit
open Go.Proofs.Ytbpjflghkkkenaa.fns Go.Proofs.Ytbpjflghkkkenaa.hpf Go.Proofs.Ytbpjflghkkkenaa.ints

theorem order_any (A B g s p n : Nat) (tv : Value) (S P T : List Nat) (w : World) (h : Hp A B w g s p tv n S P T) :
    Calls Try.prog 86 #[.pointer (some ⟨g, 0, none⟩)] w fun e w' => e = .returned (.func (.func 87) #[] #[.pointer (some ⟨w.heap.size, 0, none⟩)]) ∧
      One w' w.heap.size (.slice (some ⟨s, 0, none⟩) n n) ∧ Below w.heap.size w w' := by
  have HO := Lib.hid (one_new w (.slice (some ⟨s, 0, none⟩) n n) 99)
  have HB : Hid (Below w.heap.size w (w.alloc (.cells #[.slice (some ⟨s, 0, none⟩) n n] 99))) := Lib.hid ((Below.refl _ w).alloc (Nat.le_refl _) _)
  have hmf : ∀ (fn : Fn) (first cap : Array Value) (w : World), (Instr.makeFunc fn first cap).run Try.prog w = .ok (.func fn first cap) w := fun _ _ _ _ => rfl
  obtain ⟨c0, -, -, -⟩ := h.cG
  clear h
  go_enter Try.func86, Try.ntmps86
  go_wp2_with fail
  go_ret
  exact ⟨rfl, HO.out, HB.out⟩

theorem less_q {a b : Nat} {x : Bool} (h : decide (key a < key b) = x) (w : World) (ha : W64 a) (hb : W64 b) : Calls Try.prog 88 #[.float .f64 a, .float .f64 b] w fun e w' => e = .returned (.bool x) ∧ w' = w :=
  (score.Less_of h ha hb w).mono fun _ _ ⟨h1, h2⟩ => ⟨h1, h2.symm⟩
set_option maxHeartbeats 1600000 in
theorem ahead_any (A B g s p n c a b : Nat) (tv : Value) (S P T : List Nat) (w : World) (h : Hp A B w g s p tv n S P T) (hS : AllW S) (hc : One w c (.slice (some ⟨s, 0, none⟩) n n)) (ha : a < n) (hb : b < n) (hn : n ≤ 1048576) :
    Calls Try.prog 87 #[.int .i64 a, .int .i64 b, .pointer (some ⟨c, 0, none⟩)] w fun e w' => e = .returned (.bool (ah S a b)) ∧ ∃ q, w' = w.drewN q := by
  obtain ⟨c0, -⟩ := hc.cells
  obtain ⟨x1, -⟩ := h.cS ha
  obtain ⟨x2, -⟩ := h.cS hb
  have wa := hS a
  have wb := hS b
  have G := @ah_gt S a b hS (by omega)
  have L := @ah_lt S a b hS (by omega)
  have E := @ah_eq S a b
  obtain ⟨x, hx⟩ : ∃ x, x = S.getD a 0 := ⟨_, rfl⟩
  obtain ⟨y, hy⟩ : ∃ y, y = S.getD b 0 := ⟨_, rfl⟩
  rw [← hx] at x1 wa G L E
  rw [← hy] at x2 wb G L E
  have b1 : (a : Int) < (n : Int) := by omega
  have b2 : (b : Int) < (n : Int) := by omega
  have b3 : 0 ≤ (a : Int) := by omega
  have b4 : 0 ≤ (b : Int) := by omega
  have WA := Lib.hid wa
  have WB := Lib.hid wb
  clear hx hy h hS hc wa wb
  by_cases k1 : key y < key x
  · have K1 := Lib.hid (decide_eq_true k1)
    have R := Lib.hid (G (decide_eq_true k1))
    clear G L E k1
    go_enter Try.func87, Try.ntmps87
    go_wp2_with fail
    go_quiet ((first | (go_at_call 88; exact Calls.quiet_of_same (less_q K1.out _ WB.out WA.out)) | fail))
    go_wp2_with fail
    go_ret
    exact ⟨score.retB R.out.symm, _, rfl⟩
  · have K1 := Lib.hid (decide_eq_false k1)
    by_cases k2 : key x < key y
    · have K2 := Lib.hid (decide_eq_true k2)
      have R := Lib.hid (L (decide_eq_true k2))
      clear G L E k1 k2
      go_enter Try.func87, Try.ntmps87
      go_wp2_with fail
      go_quiet ((first | (go_at_call 88; exact Calls.quiet_of_same (less_q K1.out _ WB.out WA.out)) | fail))
      obtain ⟨W, hW⟩ : ∃ W : World, W = w.drewN nq := ⟨_, rfl⟩
      have z0 : W.cell? ⟨c, 0, none⟩ = some (.slice (some ⟨s, 0, none⟩) n n) := hW ▸ c0
      have z1 : W.cell? ⟨s, a, none⟩ = some (.float .f64 x) := hW ▸ x1
      have z2 : W.cell? ⟨s, b, none⟩ = some (.float .f64 y) := hW ▸ x2
      rw [← hW]
      have HW := Lib.hid hW
      clear hW c0 x1 x2
      go_wp2_with fail
      go_quiet ((first | (go_at_call 88; exact Calls.quiet_of_same (less_q K2.out _ WA.out WB.out)) | fail))
      go_wp2_with fail
      go_ret
      exact ⟨score.retB R.out.symm, _, by rw [HW.out, World.drewN_drewN]⟩
    · have K2 := Lib.hid (decide_eq_false k2)
      have R := Lib.hid (E (decide_eq_false k1) (decide_eq_false k2))
      clear G L E k1 k2
      go_enter Try.func87, Try.ntmps87
      go_wp2_with fail
      go_quiet ((first | (go_at_call 88; exact Calls.quiet_of_same (less_q K1.out _ WB.out WA.out)) | fail))
      obtain ⟨W, hW⟩ : ∃ W : World, W = w.drewN nq := ⟨_, rfl⟩
      have z0 : W.cell? ⟨c, 0, none⟩ = some (.slice (some ⟨s, 0, none⟩) n n) := hW ▸ c0
      have z1 : W.cell? ⟨s, a, none⟩ = some (.float .f64 x) := hW ▸ x1
      have z2 : W.cell? ⟨s, b, none⟩ = some (.float .f64 y) := hW ▸ x2
      rw [← hW]
      have HW := Lib.hid hW
      clear hW c0 x1 x2
      go_wp2_with fail
      go_quiet ((first | (go_at_call 88; exact Calls.quiet_of_same (less_q K2.out _ WA.out WB.out)) | fail))
      go_wp2_with fail
      go_ret
      exact ⟨score.retB (by rw [R.out]), _, by rw [HW.out, World.drewN_drewN]⟩
end Go.Proofs.Ytbpjflghkkkenaa.heap

/- The walk of heap's rise. -/
namespace Go.Proofs.Ytbpjflghkkkenaa.heap
open Go.RowKit
open Go.Proofs.Ytbpjflghkkkenaa.fns Go.Proofs.Ytbpjflghkkkenaa.hpf Go.Proofs.Ytbpjflghkkkenaa.ints

theorem ahead_of (A B g s p n c a b : Nat) (tv : Value) (S P T : List Nat) (w : World) {r : Bool} (hr : ah S a b = r) (h : Hp A B w g s p tv n S P T) (hS : AllW S) (hc : One w c (.slice (some ⟨s, 0, none⟩) n n)) (ha : a < n) (hb : b < n) (hn : n ≤ 1048576) :
    Calls Try.prog 87 #[.int .i64 a, .int .i64 b, .pointer (some ⟨c, 0, none⟩)] w fun e w' => e = .returned (.bool r) ∧ ∃ q, w' = w.drewN q := by
  have := ahead_any A B g s p n c a b tv S P T w h hS hc ha hb hn; rw [hr] at this; exact this
/-- how rise leaves things -/
def Risen (A B g s p t m c n id : Nat) (S : List Nat) (L : Prop) (P T : List Nat) (w w' : World) : Prop :=
  ∃ P' T' q, Hp A B w' g s p (.slice (some ⟨t, 0, none⟩) m c) n S P' T' ∧ OnWay n S id L P' T' q ∧ Up (vs S T') q ∧ Same P P' ∧ T'.length = T.length ∧ Off t p w w'
set_option maxHeartbeats 1600000 in
theorem rise_any (A B g s p t m c n id q0 : Nat) (S P T : List Nat) (L : Prop) (w : World) (h : Hp A B w g s p (.slice (some ⟨t, 0, none⟩) m c) n S P T) (hS : AllW S) (hI : OnWay n S id L P T q0) (hn : n ≤ 1048576) (hm : m ≤ n) :
    Calls Try.prog 85 #[.pointer (some ⟨g, 0, none⟩), .int .i64 id] w fun e w' => e = .returned (.tuple #[]) ∧ Risen A B g s p t m c n id S L P T w w' := by
  obtain ⟨hl, hmc, hcm, hBt, hts⟩ := h.len
  obtain ⟨-, -, hsA, -⟩ := h.low
  have hps : p < w.heap.size := (h.pl.lt p rfl).2
  have HL := Lib.hid hl
  have HS := Lib.hid hS
  obtain ⟨hidn, hpl⟩ := hI.place
  have hq0 := hI.lt
  have HI := Lib.hid hI
  have HH := Lib.hid h
  have b1 : (id : Int) < (n : Int) := by omega
  have b2 : 0 ≤ (id : Int) := by omega
  have b3 : (q0 : Int) < 1048576 := by omega
  have HPL := Lib.hid hpl
  clear hS hI hl h hpl hcm hmc
  go_enter Try.func85, Try.ntmps85
  go_wp2_with fail
  go_at_call 86; refine (order_any A B g s p n _ S P T _ HH.out).mono ?_; rintro e w1 ⟨rfl, ho, hb⟩
  have hp1 := HH.out.on hb
  have HP1 := Lib.hid hp1
  have HO := Lib.hid ho
  have HB := Lib.hid (off_of_below (t := t) (p := p) hb)
  obtain ⟨-, c1, -, -⟩ := hp1.cG
  obtain ⟨x1, -⟩ := hp1.cP hidn
  rw [HPL.out] at x1
  clear hp1 ho hb HH
  go_wp2_with fail
  go_loopw [5] (fun a wr => ∃ (q : Nat) (P' T' : List Nat), a = .int .i64 q ∧ Hid (OnWay n S id L P' T' q ∧ Same P P' ∧ T'.length = T.length) ∧ Hid (Hp A B wr g s p (.slice (some ⟨t, 0, none⟩) m c) n S P' T' ∧ Off t p w wr ∧ One wr w.heap.size (.slice (some ⟨s, 0, none⟩) n n))) (fun a _ => (intOf a).toNat)
  case atStart => exact ⟨q0, P, T, by go_num, Lib.hid ⟨HI.out, Same.refl _, rfl⟩, Lib.hid ⟨HP1.out, HB.out, HO.out⟩⟩
  case round =>
    clear HP1 HO HB c1 x1 b1 b2 b3
    obtain ⟨q, P', T', rfl, HQ, HW⟩ := hrel
    obtain ⟨wo, rfl⟩ : ∃ wo : World, wo = wr := ⟨_, rfl⟩
    have hqm : q < m := by have a := HQ.out.1.lt; have b := HQ.out.2.2; have c := HL.out; omega
    by_cases h0 : q = 0
    · have t1 : decide (0 < q) = false := by simp; omega
      have HE : Hid (Risen A B g s p t m c n id S L P T w wo) := Lib.hid (by
        obtain ⟨a1, a2, a3⟩ := HQ.out
        obtain ⟨e1, e2, -⟩ := HW.out
        exact ⟨P', T', q, e1, a1, fun e => by omega, a2, a3, e2⟩)
      clear h0
      go_wp2_with fail
      go_end0
      exact ⟨rfl, HE.out⟩
    · have t1 : decide (0 < q) = true := by simp; omega
      have hq1 : 1 ≤ q := by omega
      obtain ⟨u, hu⟩ : ∃ u, u = (q - 1) / 2 := ⟨_, rfl⟩
      have hum : u < m := by omega
      have E1 : Hid (((q : Int) - 1) / 2 = (u : Int)) := Lib.hid (by omega)
      have HU := Lib.hid hu
      clear h0 hu
      go_upto_region 3 with fail
      go_cut [6] (fun s6 wx => s6 = .int .i64 (u : Int) ∧ wx = wo)
      case first =>
        go_wp2_with fail
        go_meet
        exact ⟨by rw [E1.out], rfl⟩
      case rest =>
        obtain ⟨rfl, hwc⟩ := hcut
        obtain rfl := hwc
        obtain ⟨wo, rfl⟩ : ∃ wo : World, wo = wc := ⟨_, rfl⟩
        obtain ⟨e1, e2, e3⟩ := HW.out
        have hTl : T'.length = m := e1.len.1
        obtain ⟨-, -, c2, -⟩ := e1.cG
        obtain ⟨x2, -⟩ := e1.cT (i := u) (by omega)
        obtain ⟨b, hb⟩ : ∃ b, b = T'.getD u 0 := ⟨_, rfl⟩
        have hbn : b < n := by rw [hb]; exact (HQ.out.1.wf.at_ u (by omega)).1
        rw [← hb] at x2
        have HBB := Lib.hid hb
        have HTL := Lib.hid hTl
        have HE1 := Lib.hid e1
        have HE2 := Lib.hid e2
        have HE3 := Lib.hid e3
        have d1 : (u : Int) < (m : Int) := by omega
        have d2 : 0 ≤ (u : Int) := by omega
        clear e1 e2 e3 hb hTl
        cases hah : ah S id b
        · have HAH := Lib.hid hah
          clear hah
          go_wp2_with fail
          go_at_call 87; refine (ahead_of A B g s p n w.heap.size id b _ S P' T' _ HAH.out HE1.out HS.out HE3.out hidn hbn hn).mono ?_; rintro e w2 ⟨rfl, q2, rfl⟩
          have HE : Hid (Risen A B g s p t m c n id S L P T w (wo.drewN q2)) := Lib.hid (by
            obtain ⟨a1, a2, a3⟩ := HQ.out
            exact ⟨P', T', q, HE1.out.drewN q2, a1, a1.up HU.out (by rw [← HBB.out]; exact HAH.out), a2, a3, HE2.out.drewN q2⟩)
          go_wp2_with fail
          refine bodyPost_ret (results_none rfl _ _ _) rfl ?_
          exact ⟨rfl, HE.out⟩
        · have HAH := Lib.hid hah
          clear hah
          go_wp2_with fail
          go_at_call 87; refine (ahead_of A B g s p n w.heap.size id b _ S P' T' _ HAH.out HE1.out HS.out HE3.out hidn hbn hn).mono ?_; rintro e w2 ⟨rfl, q2, rfl⟩
          have HR := Lib.hid (HQ.out.1.rise hq1 HU.out (by rw [← HBB.out]; exact HAH.out))
          go_wp2_with fail
          go_at_call 81; refine (swap_any A B g s p t m c n q u S P' T' _ (HE1.out.drewN q2) HQ.out.1.wf (by rw [HTL.out]; exact hqm) (by rw [HTL.out]; exact hum) hn hm).mono ?_; rintro e w3 ⟨rfl, hp3, hoff⟩
          have HX : Hid (Hp A B w3 g s p (.slice (some ⟨t, 0, none⟩) m c) n S (swP P' T' q u) (swT T' q u) ∧ Off t p w w3 ∧ One w3 w.heap.size (.slice (some ⟨s, 0, none⟩) n n)) :=
            Lib.hid ⟨hp3, (HE2.out.drewN q2).trans hoff, hoff.one (HE3.out.drewN q2) (by omega) (by omega)⟩
          clear hp3 hoff
          go_wp2_with fail
          go_roundw
          case rel => exact ⟨u, swP P' T' q u, swT T' q u, rfl, Lib.hid ⟨HR.out.1, HQ.out.2.1.trans HR.out.2, by rw [swT_len]; exact HQ.out.2.2⟩, HX⟩
          case measure => have := HU.out; simp [intOf]; omega
end Go.Proofs.Ytbpjflghkkkenaa.heap
