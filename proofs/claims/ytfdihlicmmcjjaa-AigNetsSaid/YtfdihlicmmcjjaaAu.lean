/- The walks of a statement's step: All, and Copy. -/
import Derived.Test.YtfdihlicmmcjjaaAt
import Derived.Deep.RegionHeld3
namespace Go.Proofs.Ytfdihlicmmcjjaa.aig
open Go.RowKit
open Go.Proofs.Ytfdihlicmmcjjaa.mem Go.Proofs.Ytfdihlicmmcjjaa.agf

theorem kints_any {P : Nat → Prop} {W w : World} {v : Value} {zs : List Int} (k : KInts P W v zs) (hb : Below W.heap.size W w) : KInts (fun _ => False) w v zs := by
  obtain ⟨a, cap, hv, h1, h2, h3⟩ := k
  refine ⟨a, cap, hv, h1, h2, fun hp => ?_⟩
  obtain ⟨b, off, ha, hlt, hn, hc⟩ := h3 hp
  exact ⟨b, off, ha, Nat.lt_of_lt_of_le hlt hb.size, fun e => e, fun i hi => (hb.cell (p := ⟨b, off + i, none⟩) hlt).trans (hc i hi)⟩
/-- behind a copy's making -/
theorem clone_below {w w1 w2 : World} {E : Nat} {o : Obj} (hw1 : w1 = (w.alloc o).drew) (hg : w1.grownBy w2 (some E)) (hE : w.heap.size ≤ E) : Below w.heap.size w w2 := by
  subst hw1
  exact (((Below.refl _ w).alloc (Nat.le_refl _) o).drew).grown hg (by simp) (fun k hk => by cases hk; exact hE)
set_option maxRecDepth 100000 in
set_option maxHeartbeats 3200000 in
theorem step_all (J : Proj) (g : Nat) (s : J.σ) (N : Net) (h : Nat) (sv : Value) (M : Net) (a b c : Int) (l : List Int) (n : List (Int × Int)) (lv nv : Value) (W0 w : World) (t : Two J W0.heap.size w g s N h sv M) (hb : Below W0.heap.size W0 w)
    (hN : N.length ≤ 800000) (hM : M.length ≤ 800000) (hl : KInts (New W0) W0 lv l) (ok : SliceOk lv) (hn : l.length ≤ 60) :
    Calls Try.prog 21 #[.pointer (some ⟨g, 0, none⟩), .pointer (some ⟨h, 0, none⟩), .agg #[.int .i64 5, .int .i64 a, .int .i64 b, .int .i64 c, lv, nv]] w (Stepped J W0.heap.size g N h M ⟨5, a, b, c, l, n⟩ w) := by
  have hA := hb.size
  have HT := Lib.hid (t.on ((Below.refl _ w).alloc (Nat.le_refl _) (.cells #[.int .i64 5, .int .i64 a, .int .i64 b, .int .i64 c, lv, nv] 39)))
  have HBW : Hid (Below W0.heap.size W0 (w.alloc (.cells #[.int .i64 5, .int .i64 a, .int .i64 b, .int .i64 c, lv, nv] 39))) := Lib.hid (hb.alloc hA _)
  have HBX : Hid (Below W0.heap.size w (w.alloc (.cells #[.int .i64 5, .int .i64 a, .int .i64 b, .int .i64 c, lv, nv] 39))) := Lib.hid ((Below.refl _ _).alloc hA _)
  have hlt : w.heap.size < (w.alloc (.cells #[.int .i64 5, .int .i64 a, .int .i64 b, .int .i64 c, lv, nv] 39)).heap.size := by simp
  have HO1 : Hid (∀ k, J.own g s k → k < w.heap.size) := Lib.hid (fun k hk => (J.ge t.pr k hk).2)
  have HO2 : Hid (∀ k, ROwn h sv k → k < w.heap.size) := Lib.hid (fun k hk => by obtain ⟨B, hr⟩ := t.rf; exact (hr.ge k hk).2)
  have HL := Lib.hid hl
  have HK := Lib.hid ok
  clear t hb hl ok
  go_enter Try.func21, Try.ntmps21
  go_upto_region 13 with fail
  obtain ⟨X, hX⟩ : ∃ X, X = w.heap.size := ⟨_, rfl⟩
  obtain ⟨W1, hW1⟩ : ∃ W1, W1 = w.alloc (.cells #[.int .i64 5, .int .i64 a, .int .i64 b, .int .i64 c, lv, nv] 39) := ⟨_, rfl⟩
  have x1 : W1.cell? ⟨X, 4, none⟩ = some lv := by rw [hW1, hX]; simp
  rw [← hW1] at HT HBW HBX hlt
  rw [← hX] at hlt HO1 HO2 hA
  rw [← hX, ← hW1]
  have hA1 : W0.heap.size ≤ W1.heap.size := by omega
  have n1 : ¬ J.own g s X := fun e => by have := HO1.out X e; omega
  have n2 : ¬ ROwn h sv X := fun e => by have := HO2.out X e; omega
  have HE1 : Hid (∀ k, J.own g s k → k < W1.heap.size) := Lib.hid (fun k hk => by have := HO1.out k hk; omega)
  have HROW : Hid ((W1.alloc (.cells #[] 3)).drew.ownsRow W1.heap.size 3 1 (.slice (some ⟨W1.heap.size, 0, none⟩) 0 0) 0 []) := Lib.hid (World.ownsRow_made W1 #[] 0 (Nat.le_refl _) (by unfold maxLen; omega) rfl)
  have HKI : Hid (KInts (fun _ => False) (W1.alloc (.cells #[] 3)).drew lv l) := Lib.hid (kints_any HL.out ((HBW.out.alloc hA1 _).drew))
  clear hX hW1
  go_region_held3 (fun w' => w'.cell? ⟨X, 4, none⟩ = some lv)
    (first | go_keep | (exact (hb2.cell (p := ⟨X, 4, none⟩) hlt).trans x1) | (exact (m3.cell (Nat.lt_of_lt_of_le hlt hb2.size) n1 4).trans ((hb2.cell (p := ⟨X, 4, none⟩) hlt).trans x1)) | (exact (m4.cell (Nat.lt_of_lt_of_le hlt (Nat.le_trans hb2.size m3.only.size)) n2 4).trans ((m3.cell (Nat.lt_of_lt_of_le hlt hb2.size) n1 4).trans ((hb2.cell (p := ⟨X, 4, none⟩) hlt).trans x1))))
    (first | (refine step_clone _ (by rfl) (.tmp 83) (.tmp 85) (by rfl) W1.heap.size (by rfl) HROW.out lv (by rfl) l _ HKI.out HK.out (by omega) ?_; intro v2 w2 hown2 hg2; have hb2 := clone_below rfl hg2 (Nat.le_refl _)) | (go_at_call 31; refine (J.all _ g s N v2 l _ (HT.out.on hb2).pr (kints_row hown2 HE1.out) (by omega) (by omega)).mono ?_; rintro e w3 ⟨s2, rfl, p3, m3⟩) | (go_at_call 43; obtain ⟨B, hr⟩ := ((HT.out.on hb2).first p3 m3).rf; refine (refAll_any _ B h sv lv M l _ hr (HL.out.arg (HBW.out.trans ((hb2.mono hA1).trans (m3.below (HT.out.on hb2).ge.1 (Nat.le_trans hA1 hb2.size)))) HT.out.ge.2) (by omega) (by omega)).mono ?_; rintro e w4 ⟨sv3, rfl, p4, m4⟩))
  have HE := Lib.hid (two_end (HT.out.on hb2) (HBX.out.trans (hb2.mono hA1)) (Nat.le_trans hA1 hb2.size) p3 m3 p4 m4)
  have HR : Hid (stepB N M ⟨5, a, b, c, l, n⟩ = ((allF N l).1 == (allF M l).1)) := Lib.hid rfl
  clear p3 m3 p4 m4 x1
  go_wp2_with fail
  go_ret
  exact ⟨s2, sv3, retB HR.out.symm, HE.out.1, HE.out.2⟩
end Go.Proofs.Ytfdihlicmmcjjaa.aig
