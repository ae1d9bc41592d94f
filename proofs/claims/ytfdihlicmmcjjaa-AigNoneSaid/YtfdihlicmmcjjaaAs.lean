/- The walks of a statement's step, by kinds: And, Or, Xor, Mux, Input, none. (Printed by XAs.py.) -/
import Derived.Test.YtfdihlicmmcjjaaAj
namespace Go.Proofs.Ytfdihlicmmcjjaa.aig
open Go.RowKit
open Go.Proofs.Ytfdihlicmmcjjaa.mem Go.Proofs.Ytfdihlicmmcjjaa.agf

theorem Moved.cell {P P' : Nat → Prop} {w w' : World} (m : Moved P P' w w') {X : Nat} (hX : X < w.heap.size) (hn : ¬ P X) (i : Nat) : w'.cell? ⟨X, i, none⟩ = w.cell? ⟨X, i, none⟩ :=
  World.cell?_of_block (w := w) (a := ⟨X, i, none⟩) (m.only.block X hX hn)
/-- both have moved on -/
theorem two_end {J : Proj} {A g h : Nat} {s s2 : J.σ} {sv sv3 : Value} {N N2 M M2 : Net} {w w1 w2 w3 : World} {B : Nat} (t : Two J A w1 g s N h sv M) (hb : Below A w w1) (hA : A ≤ w1.heap.size)
    (p2 : J.rep A w2 g s2 N2) (m2 : Moved (J.own g s) (J.own g s2) w1 w2) (p3 : Rs A B w3 h sv3 M2) (m3 : Moved (ROwn h sv) (ROwn h sv3) w2 w3) : Two J A w3 g s2 N2 h sv3 M2 ∧ Below A w w3 := by
  have t2 := t.first p2 m2
  refine ⟨t2.second p3 m3, hb.trans ((m2.below t.ge.1 hA).trans (m3.below t2.ge.2 (Nat.le_trans hA m2.only.size)))⟩
set_option maxRecDepth 100000 in
set_option maxHeartbeats 3200000 in
theorem step_and (J : Proj) (A g : Nat) (s : J.σ) (N : Net) (h : Nat) (sv : Value) (M : Net) (a b c : Int) (l : List Int) (n : List (Int × Int)) (lv nv : Value) (w : World) (t : Two J A w g s N h sv M) (hA : A ≤ w.heap.size) (hN : N.length ≤ 800000) (hM : M.length ≤ 800000) (ha : In64 a) (hb : In64 b) :
    Calls Try.prog 21 #[.pointer (some ⟨g, 0, none⟩), .pointer (some ⟨h, 0, none⟩), .agg #[.int .i64 1, .int .i64 a, .int .i64 b, .int .i64 c, lv, nv]] w (Stepped J A g N h M ⟨1, a, b, c, l, n⟩ w) := by
  have HT := Lib.hid (t.on ((Below.refl _ w).alloc (Nat.le_refl _) (.cells #[.int .i64 1, .int .i64 a, .int .i64 b, .int .i64 c, lv, nv] 39)))
  have HA := Lib.hid ha
  have HB := Lib.hid hb
  have hlt : w.heap.size < (w.alloc (.cells #[.int .i64 1, .int .i64 a, .int .i64 b, .int .i64 c, lv, nv] 39)).heap.size := by simp
  have HO1 : Hid (∀ k, J.own g s k → k < w.heap.size) := Lib.hid (fun k hk => (J.ge t.pr k hk).2)
  have HO2 : Hid (∀ k, ROwn h sv k → k < w.heap.size) := Lib.hid (fun k hk => by obtain ⟨B, hr⟩ := t.rf; exact (hr.ge k hk).2)
  have HBW : Hid (Below A w (w.alloc (.cells #[.int .i64 1, .int .i64 a, .int .i64 b, .int .i64 c, lv, nv] 39))) := Lib.hid ((Below.refl _ _).alloc hA _)
  clear t ha hb
  go_enter Try.func21, Try.ntmps21
  go_upto_region 5 with fail
  obtain ⟨X, hX⟩ : ∃ X, X = w.heap.size := ⟨_, rfl⟩
  obtain ⟨W1, hW1⟩ : ∃ W1, W1 = w.alloc (.cells #[.int .i64 1, .int .i64 a, .int .i64 b, .int .i64 c, lv, nv] 39) := ⟨_, rfl⟩
  have x1 : W1.cell? ⟨X, 1, none⟩ = some (.int .i64 a) := by rw [hW1, hX]; simp
  have x2 : W1.cell? ⟨X, 2, none⟩ = some (.int .i64 b) := by rw [hW1, hX]; simp
  rw [← hW1] at HT HBW hlt
  rw [← hX] at hlt HO1 HO2 hA
  rw [← hX, ← hW1]
  have hA1 : A ≤ W1.heap.size := by omega
  have n1 : ¬ J.own g s X := fun e => by have := HO1.out X e; omega
  have n2 : ¬ ROwn h sv X := fun e => by have := HO2.out X e; omega
  clear hX hW1
  go_region_held3 (fun w' => w'.cell? ⟨X, 1, none⟩ = some (.int .i64 a) ∧ w'.cell? ⟨X, 2, none⟩ = some (.int .i64 b))
    (first | go_keep | (exact ⟨(m2.cell hlt n1 1).trans x1, (m2.cell hlt n1 2).trans x2⟩) | (exact ⟨(m3.cell (Nat.lt_of_lt_of_le hlt m2.only.size) n2 1).trans ((m2.cell hlt n1 1).trans x1), (m3.cell (Nat.lt_of_lt_of_le hlt m2.only.size) n2 2).trans ((m2.cell hlt n1 2).trans x2)⟩))
    (first | (go_at_call 30; refine (J.and_ A g s N a b _ (HT.out.drewN 1).pr (by omega) HA.out HB.out).mono ?_; rintro e w2 ⟨s2, rfl, p2, m2⟩) | (go_at_call 39; obtain ⟨B, hr⟩ := ((HT.out.drewN 1).first p2 m2).rf; refine (refAnd_any A B h sv M a b _ hr (by omega)).mono ?_; rintro e w3 ⟨sv3, rfl, p3, m3⟩))
  have HE := Lib.hid (two_end (HT.out.drewN 1) HBW.out.drew hA1 p2 m2 p3 m3)
  have HR : Hid (stepB N M ⟨1, a, b, c, l, n⟩ = ((andF N a b).1 == (andF M a b).1)) := Lib.hid rfl
  clear p2 m2 p3 m3 x1 x2
  go_wp2_with fail
  go_ret
  exact ⟨s2, sv3, retB HR.out.symm, HE.out.1, HE.out.2⟩
set_option maxRecDepth 100000 in
set_option maxHeartbeats 3200000 in
theorem step_or (J : Proj) (A g : Nat) (s : J.σ) (N : Net) (h : Nat) (sv : Value) (M : Net) (a b c : Int) (l : List Int) (n : List (Int × Int)) (lv nv : Value) (w : World) (t : Two J A w g s N h sv M) (hA : A ≤ w.heap.size) (hN : N.length ≤ 800000) (hM : M.length ≤ 800000) (ha : In64 a) (hb : In64 b) :
    Calls Try.prog 21 #[.pointer (some ⟨g, 0, none⟩), .pointer (some ⟨h, 0, none⟩), .agg #[.int .i64 2, .int .i64 a, .int .i64 b, .int .i64 c, lv, nv]] w (Stepped J A g N h M ⟨2, a, b, c, l, n⟩ w) := by
  have HT := Lib.hid (t.on ((Below.refl _ w).alloc (Nat.le_refl _) (.cells #[.int .i64 2, .int .i64 a, .int .i64 b, .int .i64 c, lv, nv] 39)))
  have HA := Lib.hid ha
  have HB := Lib.hid hb
  have hlt : w.heap.size < (w.alloc (.cells #[.int .i64 2, .int .i64 a, .int .i64 b, .int .i64 c, lv, nv] 39)).heap.size := by simp
  have HO1 : Hid (∀ k, J.own g s k → k < w.heap.size) := Lib.hid (fun k hk => (J.ge t.pr k hk).2)
  have HO2 : Hid (∀ k, ROwn h sv k → k < w.heap.size) := Lib.hid (fun k hk => by obtain ⟨B, hr⟩ := t.rf; exact (hr.ge k hk).2)
  have HBW : Hid (Below A w (w.alloc (.cells #[.int .i64 2, .int .i64 a, .int .i64 b, .int .i64 c, lv, nv] 39))) := Lib.hid ((Below.refl _ _).alloc hA _)
  clear t ha hb
  go_enter Try.func21, Try.ntmps21
  go_upto_region 7 with fail
  obtain ⟨X, hX⟩ : ∃ X, X = w.heap.size := ⟨_, rfl⟩
  obtain ⟨W1, hW1⟩ : ∃ W1, W1 = w.alloc (.cells #[.int .i64 2, .int .i64 a, .int .i64 b, .int .i64 c, lv, nv] 39) := ⟨_, rfl⟩
  have x1 : W1.cell? ⟨X, 1, none⟩ = some (.int .i64 a) := by rw [hW1, hX]; simp
  have x2 : W1.cell? ⟨X, 2, none⟩ = some (.int .i64 b) := by rw [hW1, hX]; simp
  rw [← hW1] at HT HBW hlt
  rw [← hX] at hlt HO1 HO2 hA
  rw [← hX, ← hW1]
  have hA1 : A ≤ W1.heap.size := by omega
  have n1 : ¬ J.own g s X := fun e => by have := HO1.out X e; omega
  have n2 : ¬ ROwn h sv X := fun e => by have := HO2.out X e; omega
  clear hX hW1
  go_region_held3 (fun w' => w'.cell? ⟨X, 1, none⟩ = some (.int .i64 a) ∧ w'.cell? ⟨X, 2, none⟩ = some (.int .i64 b))
    (first | go_keep | (exact ⟨(m2.cell hlt n1 1).trans x1, (m2.cell hlt n1 2).trans x2⟩) | (exact ⟨(m3.cell (Nat.lt_of_lt_of_le hlt m2.only.size) n2 1).trans ((m2.cell hlt n1 1).trans x1), (m3.cell (Nat.lt_of_lt_of_le hlt m2.only.size) n2 2).trans ((m2.cell hlt n1 2).trans x2)⟩))
    (first | (go_at_call 25; refine (J.or_ A g s N a b _ (HT.out.drewN 1).pr (by omega) HA.out HB.out).mono ?_; rintro e w2 ⟨s2, rfl, p2, m2⟩) | (go_at_call 40; obtain ⟨B, hr⟩ := ((HT.out.drewN 1).first p2 m2).rf; refine (refOr_any A B h sv M a b _ hr (by omega) HA.out HB.out).mono ?_; rintro e w3 ⟨sv3, rfl, p3, m3⟩))
  have HE := Lib.hid (two_end (HT.out.drewN 1) HBW.out.drew hA1 p2 m2 p3 m3)
  have HR : Hid (stepB N M ⟨2, a, b, c, l, n⟩ = ((orF N a b).1 == (orF M a b).1)) := Lib.hid rfl
  clear p2 m2 p3 m3 x1 x2
  go_wp2_with fail
  go_ret
  exact ⟨s2, sv3, retB HR.out.symm, HE.out.1, HE.out.2⟩
set_option maxRecDepth 100000 in
set_option maxHeartbeats 3200000 in
theorem step_xor (J : Proj) (A g : Nat) (s : J.σ) (N : Net) (h : Nat) (sv : Value) (M : Net) (a b c : Int) (l : List Int) (n : List (Int × Int)) (lv nv : Value) (w : World) (t : Two J A w g s N h sv M) (hA : A ≤ w.heap.size) (hN : N.length ≤ 800000) (hM : M.length ≤ 800000) (ha : In64 a) (hb : In64 b) :
    Calls Try.prog 21 #[.pointer (some ⟨g, 0, none⟩), .pointer (some ⟨h, 0, none⟩), .agg #[.int .i64 3, .int .i64 a, .int .i64 b, .int .i64 c, lv, nv]] w (Stepped J A g N h M ⟨3, a, b, c, l, n⟩ w) := by
  have HT := Lib.hid (t.on ((Below.refl _ w).alloc (Nat.le_refl _) (.cells #[.int .i64 3, .int .i64 a, .int .i64 b, .int .i64 c, lv, nv] 39)))
  have HA := Lib.hid ha
  have HB := Lib.hid hb
  have hlt : w.heap.size < (w.alloc (.cells #[.int .i64 3, .int .i64 a, .int .i64 b, .int .i64 c, lv, nv] 39)).heap.size := by simp
  have HO1 : Hid (∀ k, J.own g s k → k < w.heap.size) := Lib.hid (fun k hk => (J.ge t.pr k hk).2)
  have HO2 : Hid (∀ k, ROwn h sv k → k < w.heap.size) := Lib.hid (fun k hk => by obtain ⟨B, hr⟩ := t.rf; exact (hr.ge k hk).2)
  have HBW : Hid (Below A w (w.alloc (.cells #[.int .i64 3, .int .i64 a, .int .i64 b, .int .i64 c, lv, nv] 39))) := Lib.hid ((Below.refl _ _).alloc hA _)
  clear t ha hb
  go_enter Try.func21, Try.ntmps21
  go_upto_region 9 with fail
  obtain ⟨X, hX⟩ : ∃ X, X = w.heap.size := ⟨_, rfl⟩
  obtain ⟨W1, hW1⟩ : ∃ W1, W1 = w.alloc (.cells #[.int .i64 3, .int .i64 a, .int .i64 b, .int .i64 c, lv, nv] 39) := ⟨_, rfl⟩
  have x1 : W1.cell? ⟨X, 1, none⟩ = some (.int .i64 a) := by rw [hW1, hX]; simp
  have x2 : W1.cell? ⟨X, 2, none⟩ = some (.int .i64 b) := by rw [hW1, hX]; simp
  rw [← hW1] at HT HBW hlt
  rw [← hX] at hlt HO1 HO2 hA
  rw [← hX, ← hW1]
  have hA1 : A ≤ W1.heap.size := by omega
  have n1 : ¬ J.own g s X := fun e => by have := HO1.out X e; omega
  have n2 : ¬ ROwn h sv X := fun e => by have := HO2.out X e; omega
  clear hX hW1
  go_region_held3 (fun w' => w'.cell? ⟨X, 1, none⟩ = some (.int .i64 a) ∧ w'.cell? ⟨X, 2, none⟩ = some (.int .i64 b))
    (first | go_keep | (exact ⟨(m2.cell hlt n1 1).trans x1, (m2.cell hlt n1 2).trans x2⟩) | (exact ⟨(m3.cell (Nat.lt_of_lt_of_le hlt m2.only.size) n2 1).trans ((m2.cell hlt n1 1).trans x1), (m3.cell (Nat.lt_of_lt_of_le hlt m2.only.size) n2 2).trans ((m2.cell hlt n1 2).trans x2)⟩))
    (first | (go_at_call 26; refine (J.xor A g s N a b _ (HT.out.drewN 1).pr (by omega) HA.out HB.out).mono ?_; rintro e w2 ⟨s2, rfl, p2, m2⟩) | (go_at_call 41; obtain ⟨B, hr⟩ := ((HT.out.drewN 1).first p2 m2).rf; refine (refXor_any A B h sv M a b _ hr (by omega) HB.out).mono ?_; rintro e w3 ⟨sv3, rfl, p3, m3⟩))
  have HE := Lib.hid (two_end (HT.out.drewN 1) HBW.out.drew hA1 p2 m2 p3 m3)
  have HR : Hid (stepB N M ⟨3, a, b, c, l, n⟩ = ((xorF N a b).1 == (xorF M a b).1)) := Lib.hid rfl
  clear p2 m2 p3 m3 x1 x2
  go_wp2_with fail
  go_ret
  exact ⟨s2, sv3, retB HR.out.symm, HE.out.1, HE.out.2⟩
set_option maxRecDepth 100000 in
set_option maxHeartbeats 3200000 in
theorem step_mux (J : Proj) (A g : Nat) (s : J.σ) (N : Net) (h : Nat) (sv : Value) (M : Net) (a b c : Int) (l : List Int) (n : List (Int × Int)) (lv nv : Value) (w : World) (t : Two J A w g s N h sv M) (hA : A ≤ w.heap.size) (hN : N.length ≤ 800000) (hM : M.length ≤ 800000) (ha : In64 a) (hb : In64 b) (hc : In64 c) :
    Calls Try.prog 21 #[.pointer (some ⟨g, 0, none⟩), .pointer (some ⟨h, 0, none⟩), .agg #[.int .i64 4, .int .i64 a, .int .i64 b, .int .i64 c, lv, nv]] w (Stepped J A g N h M ⟨4, a, b, c, l, n⟩ w) := by
  have HT := Lib.hid (t.on ((Below.refl _ w).alloc (Nat.le_refl _) (.cells #[.int .i64 4, .int .i64 a, .int .i64 b, .int .i64 c, lv, nv] 39)))
  have HA := Lib.hid ha
  have HB := Lib.hid hb
  have HC := Lib.hid hc
  have hlt : w.heap.size < (w.alloc (.cells #[.int .i64 4, .int .i64 a, .int .i64 b, .int .i64 c, lv, nv] 39)).heap.size := by simp
  have HO1 : Hid (∀ k, J.own g s k → k < w.heap.size) := Lib.hid (fun k hk => (J.ge t.pr k hk).2)
  have HO2 : Hid (∀ k, ROwn h sv k → k < w.heap.size) := Lib.hid (fun k hk => by obtain ⟨B, hr⟩ := t.rf; exact (hr.ge k hk).2)
  have HBW : Hid (Below A w (w.alloc (.cells #[.int .i64 4, .int .i64 a, .int .i64 b, .int .i64 c, lv, nv] 39))) := Lib.hid ((Below.refl _ _).alloc hA _)
  clear t ha hb hc
  go_enter Try.func21, Try.ntmps21
  go_upto_region 11 with fail
  obtain ⟨X, hX⟩ : ∃ X, X = w.heap.size := ⟨_, rfl⟩
  obtain ⟨W1, hW1⟩ : ∃ W1, W1 = w.alloc (.cells #[.int .i64 4, .int .i64 a, .int .i64 b, .int .i64 c, lv, nv] 39) := ⟨_, rfl⟩
  have x1 : W1.cell? ⟨X, 1, none⟩ = some (.int .i64 a) := by rw [hW1, hX]; simp
  have x2 : W1.cell? ⟨X, 2, none⟩ = some (.int .i64 b) := by rw [hW1, hX]; simp
  have x3 : W1.cell? ⟨X, 3, none⟩ = some (.int .i64 c) := by rw [hW1, hX]; simp
  rw [← hW1] at HT HBW hlt
  rw [← hX] at hlt HO1 HO2 hA
  rw [← hX, ← hW1]
  have hA1 : A ≤ W1.heap.size := by omega
  have n1 : ¬ J.own g s X := fun e => by have := HO1.out X e; omega
  have n2 : ¬ ROwn h sv X := fun e => by have := HO2.out X e; omega
  clear hX hW1
  go_region_held3 (fun w' => w'.cell? ⟨X, 1, none⟩ = some (.int .i64 a) ∧ w'.cell? ⟨X, 2, none⟩ = some (.int .i64 b) ∧ w'.cell? ⟨X, 3, none⟩ = some (.int .i64 c))
    (first | go_keep | (exact ⟨(m2.cell hlt n1 1).trans x1, (m2.cell hlt n1 2).trans x2, (m2.cell hlt n1 3).trans x3⟩) | (exact ⟨(m3.cell (Nat.lt_of_lt_of_le hlt m2.only.size) n2 1).trans ((m2.cell hlt n1 1).trans x1), (m3.cell (Nat.lt_of_lt_of_le hlt m2.only.size) n2 2).trans ((m2.cell hlt n1 2).trans x2), (m3.cell (Nat.lt_of_lt_of_le hlt m2.only.size) n2 3).trans ((m2.cell hlt n1 3).trans x3)⟩))
    (first | (go_at_call 27; refine (J.mux A g s N a b c _ (HT.out.drewN 1).pr (by omega) HA.out HB.out HC.out).mono ?_; rintro e w2 ⟨s2, rfl, p2, m2⟩) | (go_at_call 42; obtain ⟨B, hr⟩ := ((HT.out.drewN 1).first p2 m2).rf; refine (refMux_any A B h sv M a b c _ hr (by omega)).mono ?_; rintro e w3 ⟨sv3, rfl, p3, m3⟩))
  have HE := Lib.hid (two_end (HT.out.drewN 1) HBW.out.drew hA1 p2 m2 p3 m3)
  have HR : Hid (stepB N M ⟨4, a, b, c, l, n⟩ = ((muxF N a b c).1 == (muxF M a b c).1)) := Lib.hid rfl
  clear p2 m2 p3 m3 x1 x2 x3
  go_wp2_with fail
  go_ret
  exact ⟨s2, sv3, retB HR.out.symm, HE.out.1, HE.out.2⟩
set_option maxHeartbeats 1600000 in
theorem step_input (J : Proj) (A g : Nat) (s : J.σ) (N : Net) (h : Nat) (sv : Value) (M : Net) (a b c : Int) (l : List Int) (n : List (Int × Int)) (lv nv : Value) (w : World) (t : Two J A w g s N h sv M) (hA : A ≤ w.heap.size) (hN : N.length ≤ 800000) (hM : M.length ≤ 800000) :
    Calls Try.prog 21 #[.pointer (some ⟨g, 0, none⟩), .pointer (some ⟨h, 0, none⟩), .agg #[.int .i64 0, .int .i64 a, .int .i64 b, .int .i64 c, lv, nv]] w (Stepped J A g N h M ⟨0, a, b, c, l, n⟩ w) := by
  have HT := Lib.hid (t.on ((Below.refl _ w).alloc (Nat.le_refl _) (.cells #[.int .i64 0, .int .i64 a, .int .i64 b, .int .i64 c, lv, nv] 39)))
  have HBW : Hid (Below A w (w.alloc (.cells #[.int .i64 0, .int .i64 a, .int .i64 b, .int .i64 c, lv, nv] 39))) := Lib.hid ((Below.refl _ _).alloc hA _)
  have hA1 : A ≤ (w.alloc (.cells #[.int .i64 0, .int .i64 a, .int .i64 b, .int .i64 c, lv, nv] 39)).heap.size := by simp; omega
  clear t
  go_enter Try.func21, Try.ntmps21
  go_wp2_with fail
  go_at_call 20; refine (J.input A g s N _ HT.out.pr (by omega)).mono ?_; rintro e w2 ⟨s2, rfl, p2, m2⟩
  obtain ⟨B, hr⟩ := (HT.out.first p2 m2).rf
  have HRR := Lib.hid hr
  have HP := Lib.hid p2
  have HM := Lib.hid m2
  clear hr p2 m2
  go_wp2_with fail
  go_at_call 38; refine (refInput_any A B h sv M _ HRR.out (by omega)).mono ?_; rintro e w3 ⟨sv3, rfl, p3, m3⟩
  have HE := Lib.hid (two_end HT.out HBW.out hA1 HP.out HM.out p3 m3)
  have HR : Hid (stepB N M ⟨0, a, b, c, l, n⟩ = ((inF N).1 == (inF M).1)) := Lib.hid rfl
  clear p3 m3
  go_wp2_with fail
  go_ret
  exact ⟨s2, sv3, retB HR.out.symm, HE.out.1, HE.out.2⟩
theorem step_none (J : Proj) (A g : Nat) (s : J.σ) (N : Net) (h : Nat) (sv : Value) (M : Net) (kd a b c : Int) (l : List Int) (n : List (Int × Int)) (lv nv : Value) (w : World) (t : Two J A w g s N h sv M) (hA : A ≤ w.heap.size)
    (hk : kd ≠ 0 ∧ kd ≠ 1 ∧ kd ≠ 2 ∧ kd ≠ 3 ∧ kd ≠ 4 ∧ kd ≠ 5 ∧ kd ≠ 7) :
    Calls Try.prog 21 #[.pointer (some ⟨g, 0, none⟩), .pointer (some ⟨h, 0, none⟩), .agg #[.int .i64 kd, .int .i64 a, .int .i64 b, .int .i64 c, lv, nv]] w (Stepped J A g N h M ⟨kd, a, b, c, l, n⟩ w) := by
  have HT := Lib.hid (t.on ((Below.refl _ w).alloc (Nat.le_refl _) (.cells #[.int .i64 kd, .int .i64 a, .int .i64 b, .int .i64 c, lv, nv] 39)))
  have HBW : Hid (Below A w (w.alloc (.cells #[.int .i64 kd, .int .i64 a, .int .i64 b, .int .i64 c, lv, nv] 39))) := Lib.hid ((Below.refl _ _).alloc hA _)
  obtain ⟨k0, k1, k2, k3, k4, k5, k7⟩ := hk
  have HF : Hid (stepB N M ⟨kd, a, b, c, l, n⟩ = true ∧ stepF N ⟨kd, a, b, c, l, n⟩ = N ∧ stepF M ⟨kd, a, b, c, l, n⟩ = M) := Lib.hid (by
    unfold stepB stepF; simp [k0, k1, k2, k3, k4, k5, k7])
  have c0 : (kd == 0) = false := by simpa using k0
  have c1 : (kd == 1) = false := by simpa using k1
  have c2 : (kd == 2) = false := by simpa using k2
  have c3 : (kd == 3) = false := by simpa using k3
  have c4 : (kd == 4) = false := by simpa using k4
  have c5 : (kd == 5) = false := by simpa using k5
  have c7 : (kd == 7) = false := by simpa using k7
  clear t k0 k1 k2 k3 k4 k5 k7
  go_enter Try.func21, Try.ntmps21
  go_wp2_with fail
  go_ret
  exact ⟨s, sv, retB HF.out.1.symm, by rw [HF.out.2.1, HF.out.2.2]; exact HT.out, HBW.out⟩
end Go.Proofs.Ytfdihlicmmcjjaa.aig
