/- The walks of the project's put and gate. -/
import Derived.Test.YtfdihlicmmcjjaaY1
import Derived.Test.YtfdihlicmmcjjaaAs
import Derived.Deep.RegionLaw
import Derived.Deep.QuietTactic
import Derived.BigQuiet
import Derived.BigRegion
import Derived.Shelf.SlMaps.Clone
namespace Go.Proofs.Ytfdihlicmmcjjaa.aig
open Go.RowKit Go.Maps Go.WideMaps
open Go.Proofs.Ytfdihlicmmcjjaa.mem Go.Proofs.Ytfdihlicmmcjjaa.agf Go.Proofs.Ytfdihlicmmcjjaa.fns

theorem pair_cell (a b : Int) : ∀ u ∈ ([.int .i64 a, .int .i64 b] : List Value), u.oneCell' = true := by
  intro u hu; simp at hu; rcases hu with rfl | rfl <;> rfl
/-- how a step leaves the store (its map apart) -/
def GPut (A g mb : Nat) (v : Value) (N : Net) (D : DataW Unit) (q0 : Nat) (w w' : World) : Prop :=
  ∃ v', Gs A w' g mb v' N D q0 ∧ Moved (GOwn g mb v) (GOwn g mb v') w w'
set_option maxHeartbeats 1600000 in
theorem put_any (A g mb : Nat) (v : Value) (N : Net) (D : DataW Unit) (q0 : Nat) (x : Nd) (w : World) (s : Gs A w g mb v N D q0) (hN : N.length ≤ 1000000) :
    Calls Try.prog 37 #[.pointer (some ⟨g, 0, none⟩), .agg #[.int .i64 (conc x).1, .int .i64 (conc x).2]] w
      fun e w' => e = .returned (.int .i64 (2 * ((N.length : Int) + 1))) ∧ GPut A g mb v (N ++ [x]) D q0 w w' := by
  obtain ⟨i0, hi, hz0, hz1, hz2⟩ := info_parts infoN
  have hlay := s.lay
  have hap := s.ap
  have hlow := s.low
  obtain ⟨va, vc, rfl⟩ := s.form
  obtain ⟨⟨c0, f0⟩, -⟩ := s.cells
  have hlt := s.lt.1
  obtain ⟨n, hn⟩ : ∃ n, n = N.length := ⟨_, rfl⟩
  rw [← hn] at s c0 hN hap ⊢
  have HS := Lib.hid s
  obtain ⟨a, ha⟩ : ∃ a, a = (conc x).1 := ⟨_, rfl⟩
  obtain ⟨b, hb⟩ : ∃ b, b = (conc x).2 := ⟨_, rfl⟩
  rw [← ha, ← hb]
  have HA := Lib.hid ha
  have HB := Lib.hid hb
  have HX := Lib.hid (pair_cell a b)
  have HB1 : Hid (Below w.heap.size w (((w.alloc (.cells #[.int .i64 a, .int .i64 b] 54)).alloc (.cells #[.int .i64 a, .int .i64 b] 54)).drew)) := Lib.hid ((((Below.refl _ w).alloc (Nat.le_refl _) _).alloc (by simp) _).drew)
  have hrow := own_on s.row HB1.out
  rw [← hn] at hrow
  have HROW := Lib.hid hrow
  have HBLK : Hid ((((w.alloc (.cells #[.int .i64 a, .int .i64 b] 54)).alloc (.cells #[.int .i64 a, .int .i64 b] 54)).drew).heap[w.heap.size + 1]? = some (.cells #[.int .i64 a, .int .i64 b] 54 (0, 0))) := Lib.hid (by
    show ((w.heap.push _).push _)[w.heap.size + 1]? = _
    rw [Array.getElem?_push, if_pos (by simp only [Array.size_push])])
  have HNN := Lib.hid hn
  have HAP : Hid (some g ≠ (Value.slice va n vc).ownBlock) := Lib.hid (fun e => hap.1 e.symm)
  have t0 : decide (1048576 ≤ (n : Int)) = false := by simp; omega
  clear s hn hrow ha hb hap
  go_enter Try.func37, Try.ntmps37
  go_upto_region 3 with fail
  go_cut [] (fun wx => Hid (GPut A g mb (.slice va n vc) (N ++ [x]) D q0 w wx))
  case first =>
    go_region_law
      ((refine step_append_lies _ (by rfl) (.tmp 19) (.tmp 21) 22 (by rfl) A 54 i0 _ 2 16 Try.underlying22 hi hz0 hz1 hz2 rfl (by decide) (.slice va n vc) n (nodeCells (N.map conc)) (by rfl) HROW.out ⟨w.heap.size + 1, 0, none⟩ 1 1 [.int .i64 a, .int .i64 b] (by rfl) (by rfl) (World.news_of_block (cs := #[.int .i64 a, .int .i64 b]) (t := 54) (fr := (0, 0)) HBLK.out) HX.out (by omega) (by unfold maxLen; omega) (by omega) (by simp; omega) (w.heap.size + 2) (by simp) ?_; intro t c w1 hown hgrow hat hlt1; have c3 := (hgrow.cell_far ⟨g, 0, none⟩ (by simp; omega) HAP.out); have f3 := (hgrow.frozen_far ⟨g, 0, none⟩ (by simp; omega) HAP.out)))
    all_goals
      have HE := Lib.hid (Gs.put (x := x) HS.out HB1.out (by rw [← HNN.out, ← HA.out, ← HB.out]; exact hown) hgrow (fun k hk => by
        have e : k = t := by simpa [Value.ownBlock] using hk.symm
        subst e
        exact hat.imp id (by omega)))
      clear hown hgrow hat c3 f3
      go_wp2_with fail
      go_meet
      exact ⟨_, HE.out.1, HE.out.2⟩
  case rest =>
    clear HROW HBLK HB1 c0 f0 HX t0
    obtain ⟨v', s1, s2⟩ := hcut.out
    obtain ⟨W, rfl⟩ : ∃ W : World, W = wc := ⟨_, rfl⟩
    obtain ⟨a', c, rfl⟩ := s1.form
    obtain ⟨⟨c1, -⟩, -⟩ := s1.cells
    obtain ⟨m, hm⟩ : ∃ m, m = (N ++ [x]).length := ⟨_, rfl⟩
    have hmN : m = n + 1 := by rw [hm, HNN.out]; simp
    rw [← hm] at c1
    have hmb : m ≤ 1000001 := by omega
    have HR : Hid (litOf (m : Int) false = 2 * ((n : Int) + 1)) := Lib.hid (by rw [of_pos (by omega) (by omega)]; omega)
    have HE : Hid (GPut A g mb (.slice va n vc) (N ++ [x]) D q0 w W) := hcut
    clear hcut s1 s2 hm hmN hN hlt hlay
    go_wp2_with fail
    go_at_call 51; refine (lits.Of_any _ _ _).mono ?_; rintro e w' ⟨rfl, rfl⟩
    go_wp2_with fail
    go_ret
    exact ⟨retI HR.out, HE.out⟩

/-- what the map tells of a gate -/
theorem look_gate {A : Nat} {w : World} {g mb : Nat} {v : Value} {N : Net} {D : DataW Unit} {q0 : Nat} (s : Gs A w g mb v N D q0) (gk : GOk D N) {x y : Nat} (hx : x ≤ 4000000) (hy : y ≤ 4000000) :
    ∃ c : Int, (∀ q, (Instr.lookup 60 (.map (some mb)) (.agg #[.int .i64 (x : Int), .int .i64 (y : Int)]) true).run Try.prog (w.drewN q) = .ok (.tuple #[.int .i64 c, .bool (seek N (x, y)).isSome]) (w.drewN q)) ∧ ∀ i, seek N (x, y) = some i → c = 2 * ((i : Int) + 1) := by
  obtain ⟨k1, k2⟩ := gk.2 x y hx hy
  have one : ∀ w' : World, Gs A w' g mb v N D q0 → ∃ c : Int, (Instr.lookup 60 (.map (some mb)) (.agg #[.int .i64 (x : Int), .int .i64 (y : Int)]) true).run Try.prog w' = .ok (.tuple #[.int .i64 c, .bool (seek N (x, y)).isSome]) w' ∧ (D.atKey (kl x y) (.lit (.int .i64 0))) = .lit (.int .i64 c) := by
    intro w' s
    obtain ⟨c0, ps, hrun, hv⟩ := s.map.look_ok lawN Try.underlying60 (zeroI w') (plainElem_int Try.underlying3 (by decide)) (key_node (in64n hx) (in64n hy))
    obtain ⟨c, rfl, hc, -⟩ := plainElem_int_inv Try.underlying3 hv
    have hc1 := congrArg Prod.fst hc
    refine ⟨c, ?_, hc1⟩
    rw [hrun]
    cases hs : seek N (x, y) with
    | none => rw [k1 hs]; rfl
    | some i => rw [(k2 i hs).1]; rfl
  obtain ⟨c, -, hc⟩ := one w s
  refine ⟨c, fun q => ?_, fun i hi => ?_⟩
  · obtain ⟨c', h1, h2⟩ := one (w.drewN q) (s.on (below_drewN (Below.refl _ _) q))
    have e : c' = c := by rw [hc] at h2; simpa using h2.symm
    rw [e] at h1; exact h1
  · have := (k2 i hi).2
    rw [this] at hc
    simpa using hc.symm
/-- the store, whole -/
def GRep (A : Nat) (w : World) (g mb : Nat) (v : Value) (N : Net) : Prop := ∃ D q0, Gs A w g mb v N D q0 ∧ q0 ≤ N.length ∧ GOk D N
/-- how a step leaves it -/
def GStep (A g mb : Nat) (v : Value) (M : Net) (r : Int) (w : World) (e : Ending) (w' : World) : Prop :=
  ∃ v', e = .returned (.int .i64 r) ∧ GRep A w' g mb v' M ∧ Moved (GOwn g mb v) (GOwn g mb v') w w'
set_option maxRecDepth 100000 in
set_option maxHeartbeats 1600000 in
theorem gate_any (A g mb : Nat) (v : Value) (N : Net) (D : DataW Unit) (q0 x y : Nat) (w : World) (s : Gs A w g mb v N D q0) (gk : GOk D N) (hq : q0 ≤ N.length) (hN : N.length ≤ 1000000) (hx : x ≤ 4000000) (hy : y ≤ 4000000) :
    Calls Try.prog 48 #[.pointer (some ⟨g, 0, none⟩), .agg #[.int .i64 (x : Int), .int .i64 (y : Int)]] w (GStep A g mb v (putG N x y).2 (putG N x y).1 w) := by
  have HX : Hid (x ≤ 4000000 ∧ y ≤ 4000000) := Lib.hid ⟨hx, hy⟩
  have HS := Lib.hid s
  have HQ := Lib.hid hq
  have HG := Lib.hid gk
  obtain ⟨X, hX⟩ : ∃ X, X = w.heap.size := ⟨_, rfl⟩
  obtain ⟨W1, hW1⟩ : ∃ W1, W1 = w.alloc (.cells #[.int .i64 (x : Int), .int .i64 (y : Int)] 54) := ⟨_, rfl⟩
  have x0 : W1.cell? ⟨X, 0, none⟩ = some (.int .i64 (x : Int)) := by rw [hW1, hX]; simp
  have x1 : W1.cell? ⟨X, 1, none⟩ = some (.int .i64 (y : Int)) := by rw [hW1, hX]; simp
  have hXl : X < W1.heap.size := by rw [hW1, hX]; simp
  have hXn : ¬ GOwn g mb v X := fun e => by have := (HS.out.ge X e).2; omega
  have HB1 : Hid (Below w.heap.size w W1) := Lib.hid (by rw [hW1]; exact (Below.refl _ _).alloc (Nat.le_refl _) _)
  have HS1 : Hid (Gs A W1 g mb v N D q0) := Lib.hid (HS.out.on HB1.out)
  have HXX := Lib.hid hX
  have HWW := Lib.hid hW1
  clear s gk hq hx hy hX hW1
  go_enter Try.func48, Try.ntmps48
  go_upto_region 1 with fail
  rw [← HXX.out, ← HWW.out]
  obtain ⟨-, cm, -⟩ := HS1.out.cells
  obtain ⟨c, hlook, hci⟩ := look_gate HS1.out HG.out HX.out.1 HX.out.2
  cases hs : seek N (x, y) with
  | some i =>
    have HR : Hid (putG N x y = (c, N)) := Lib.hid (by unfold putG; rw [hs]; rw [hci i hs])
    rw [hs] at hlook
    simp only [Option.isSome] at hlook
    clear hci hs
    go_quiet (fail)
    go_wp2_with fail
    go_ret
    rw [HR.out]
    exact ⟨v, rfl, ⟨D, q0, HS1.out.on (below_drewN (Below.refl _ _) _), HQ.out, HG.out⟩, moved_of_below (below_drewN HB1.out _)⟩
  | none =>
    have HR : Hid (putG N x y = (2 * ((N.length : Int) + 1), N ++ [some (x, y)])) := Lib.hid (by unfold putG; rw [hs])
    have HSK := Lib.hid hs
    rw [hs] at hlook
    simp only [Option.isSome] at hlook
    clear hci hs
    go_quiet (fail)
    go_wp2_with fail
    obtain ⟨n, hn⟩ : ∃ n, n = N.length := ⟨_, rfl⟩
    obtain ⟨W2, hW2⟩ : ∃ W2, W2 = W1.drewN nq := ⟨_, rfl⟩
    have HS2 : Hid (Gs A W2 g mb v N D q0) := Lib.hid (by rw [hW2]; exact HS1.out.on (below_drewN (Below.refl _ _) _))
    have HB2 : Hid (Below w.heap.size w W2) := Lib.hid (by rw [hW2]; exact below_drewN HB1.out _)
    have y0 : W2.cell? ⟨X, 0, none⟩ = some (.int .i64 (x : Int)) := by rw [hW2]; exact x0
    have y1 : W2.cell? ⟨X, 1, none⟩ = some (.int .i64 (y : Int)) := by rw [hW2]; exact x1
    have hXl2 : X < W2.heap.size := by rw [hW2]; exact hXl
    have HPT := Lib.hid (put_any A g mb v N D q0 (some (x, y)) W2 HS2.out hN)
    rw [← hn] at HPT HR
    rw [← hW2]
    have HNN := Lib.hid hn
    have hnn : n ≤ 1000000 := by omega
    clear hlook cm x0 x1 hW2 hXl HS1 HB1 hn hN
    go_at_call 37; refine HPT.out.mono ?_; rintro e w3 ⟨rfl, v3, s3, m3⟩
    have z0 := (m3.cell hXl2 hXn 0).trans y0
    have z1 := (m3.cell hXl2 hXn 1).trans y1
    have HM3 := Lib.hid m3
    have HS3 := Lib.hid s3
    obtain ⟨-, cm, -⟩ := s3.cells
    have c7 : (2 * ((n : Int) + 1) == -1) = false := by simp; omega
    have hmn := fun w => run_eql_map_nil_sl (P := Try.prog) w 60 _ _ (some mb) Try.underlying60
    have hlen3 : q0 < maxLen := by have := HQ.out; rw [← HNN.out] at this; unfold maxLen; omega
    clear m3 s3 y0 y1 hXl2 hXn
    go_upto_region 9 with fail
    obtain ⟨w4, hup, hown4, hg4⟩ := (HS3.out.on (w' := w3.drew) ((Below.refl _ w3).drew)).map.update lawN Try.underlying60 hlen3 (key_node (in64n HX.out.1) (in64n HX.out.2)) (plainElem_int (q := .i64) (a := 2 * ((n : Int) + 1)) Try.underlying3 (WalkArith.wf_i64 (by omega)))
    go_region
    obtain ⟨s4, m4⟩ := (HS3.out.on (w' := w3.drew) ((Below.refl _ w3).drew)).mapSet hown4 hg4
    have HE : Hid (GStep A g mb v (N ++ [some (x, y)]) (2 * ((n : Int) + 1)) w (.returned (.int .i64 (2 * ((n : Int) + 1)))) w4) := Lib.hid ⟨v3, rfl, ⟨_, q0 + 1, s4, by rw [List.length_append]; have := HQ.out; simp; omega, by
      have := gok_gate HG.out HX.out.1 HX.out.2 HSK.out
      rw [← HNN.out] at this
      exact this⟩, ((moved_of_below HB2.out).trans HM3.out).trans ((moved_of_below ((Below.refl _ w3).drew)).trans m4)⟩
    clear s4 m4 hup hown4 hg4 z0 z1 cm
    go_wp2_with fail
    go_ret
    rw [HR.out]
    exact HE.out
end Go.Proofs.Ytfdihlicmmcjjaa.aig
