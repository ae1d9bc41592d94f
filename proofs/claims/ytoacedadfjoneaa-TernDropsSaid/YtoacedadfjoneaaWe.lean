/- The walk of the project's causes: the variables without each of which a variable would be open. -/
import Derived.Test.YtoacedadfjoneaaWd
namespace Go.Proofs.Ytoacedadfjoneaa.aig
open Go.RowKit
open Go.Proofs.Ytoacedadfjoneaa.mem Go.Proofs.Ytoacedadfjoneaa.agf Go.Proofs.Ytoacedadfjoneaa.fns
open Go.Proofs.Ytoacedadfjoneaa.ints (Ints ints_of_owned below_drewN)
open Go.Proofs.Ytoacedadfjoneaa.tri (tLit)

theorem row_lit (w : World) (cs : Array Value) (n : Nat) (h : cs.size = n) (hn : n ≤ 1000) : (w.alloc (.cells cs 3)).ownsRow w.heap.size 3 1 (.slice (some ⟨w.heap.size, 0, none⟩) n n) n cs.toList :=
  ⟨by simp [h], .inr ⟨w.heap.size, n, cs, rfl, Nat.le_refl _, heap_alloc_new w _, Nat.le_refl _, by unfold maxLen; omega, by omega, List.take_of_length_le (by rw [Array.length_toList]; omega)⟩⟩
theorem row_up {w : World} {B B' n size : Nat} {e : TypeId} {v : Value} {xs : List Value} (h : w.ownsRow B e size v n xs) (hb : B' ≤ B) : w.ownsRow B' e size v n xs := by
  refine ⟨h.1, ?_⟩
  rcases h.2 with hn' | ⟨g, cap, cur, rfl, hb2, rest⟩
  · exact .inl hn'
  · exact .inr ⟨g, cap, cur, rfl, Nat.le_trans hb hb2, rest⟩
theorem told_nil {w w' : World} (hb : Below w.heap.size w w') : Told [] w (.returned (.slice none 0 0)) w' := ⟨_, rfl, World.ownsRow_nil _ _ _ _, hb⟩
theorem told_lit {w w' : World} {L : List Int} {cs : Array Value} (hb : Below w.heap.size w w') (h : cs = (L.map (Value.int .i64)).toArray) (hl : L.length ≤ 1000) :
    Told L w (.returned (.slice (some ⟨w'.heap.size, 0, none⟩) L.length L.length)) (w'.alloc (.cells cs 3)) := by
  subst h
  have r := row_lit w' (L.map (Value.int .i64)).toArray L.length (by simp) hl
  exact ⟨_, rfl, row_up (by simpa using r) hb.size, hb.trans ((alloc_below w' _).mono hb.size)⟩
theorem told_drew {L : List Int} {w w' : World} {e : Ending} (h : Told L w e w') : Told L w e w'.drew := by obtain ⟨v, h1, h2, h3⟩ := h; exact ⟨v, h1, h2, h3.drew⟩
theorem cause_in {V : List Int} {ns : List (Int × Int)} {v : Nat} (h : v = 0 ∨ (ns.getD (v - 1) (0, 0)).1 < 0) : causeL V ns v = [] := by unfold causeL; rw [if_pos h]
theorem cause_gate {V : List Int} {ns : List (Int × Int)} {v k x y : Nat} (h : v = k + 1) (hx : ns.getD k (0, 0) = ((x : Int), (y : Int))) :
    causeL V ns v = if V.getD v 0 = 1 then [((x / 2 : Nat) : Int), ((y / 2 : Nat) : Int)] else if tLit V (x : Int) ≠ 0 then [((y / 2 : Nat) : Int)] else if tLit V (y : Int) ≠ 0 then [((x / 2 : Nat) : Int)] else [] := by
  unfold causeL
  rw [show v - 1 = k by omega, hx, if_neg (by simp; omega)]
  simp only [half]
set_option maxHeartbeats 1600000 in
theorem causes_no (d : DC) (V : List Int) (M : List Bool) (v : Nat) (w : World) (h : Dp d w V M) (hv : v ≤ d.m) (hno : v = 0 ∨ (d.ns.getD (v - 1) (0, 0)).1 < 0) :
    Calls Try.prog 47 #[.pointer (some ⟨d.g, 0, none⟩), .int .i64 (v : Int)] w (Told (causeL V d.ns v) w) := by
  rw [cause_in hno]
  obtain ⟨A, g, tv, c, tm, q, m, na, ncap, gb, goff, gcap, fb, foff, fcap, ns, F⟩ := d
  obtain ⟨c0, -, -, c3, -⟩ := h.cG
  obtain ⟨l1, l2⟩ := h.len
  dsimp only at c0 c3 hv hno l1 l2 ⊢
  have hk3 : v ≤ 1000 := by omega
  by_cases h0 : v = 0
  · subst h0
    clear h l1 hno c0 c3
    go_enter Try.func47, Try.ntmps47
    go_wp2_with fail
    go_ret
    exact told_nil (Below.refl _ _)
  · obtain ⟨k, hvk⟩ : ∃ k, v = k + 1 := ⟨v - 1, by omega⟩
    have hk : k < m := by omega
    obtain ⟨nb, noff, hna, hnl, e1, e2⟩ := h.net.at_ hk
    dsimp only at e1 e2 hna
    subst hna
    obtain ⟨pq, hpq⟩ : ∃ pq, pq = ns.getD k (0, 0) := ⟨_, rfl⟩
    rw [← hpq] at e1 e2
    have hp0 := hno.resolve_left h0
    rw [show v - 1 = k by omega, ← hpq] at hp0
    obtain ⟨p, r⟩ := pq
    dsimp only at e1 e2 hp0
    have HP := Lib.hid (decide_eq_true hp0)
    have hva : (v : Int) - 1 = (k : Int) := by omega
    have d1 : (k : Int) < (m : Int) := by omega
    have d2 : 0 ≤ (k : Int) := by omega
    have c1 : ((v : Int) == 0) = false := by simp; omega
    have c2 : (v == 0) = false := by simp; omega
    clear h l1 hno hpq hp0 hvk h0
    go_enter Try.func47, Try.ntmps47
    go_wp2_with fail
    go_at_call 24; refine (ternIn_of r HP.out _).mono ?_; rintro e w2 ⟨rfl, hb⟩
    have HB := Lib.hid hb
    clear hb
    go_wp2_with fail
    go_ret
    exact told_nil HB.out
set_option maxHeartbeats 3200000 in
theorem causes_gate (d : DC) (V : List Int) (M : List Bool) (v k x y : Nat) (w : World) (h : Dp d w V M) (hv : v = k + 1) (hk : k < d.m) (hx : d.ns.getD k (0, 0) = ((x : Int), (y : Int))) (hxs : x ≤ 2001) (hys : y ≤ 2001) :
    Calls Try.prog 47 #[.pointer (some ⟨d.g, 0, none⟩), .int .i64 (v : Int)] w (Told (causeL V d.ns v) w) := by
  rw [cause_gate hv hx]
  have HSD : Hid (∀ W, Below w.heap.size w W → Calls Try.prog 52 #[.pointer (some ⟨d.g, 0, none⟩), .int .i64 (v : Int)] W fun e w' => e = .returned (.tuple #[.int .i64 (tLit V (x : Int)), .int .i64 (tLit V (y : Int))]) ∧ Below W.heap.size W w') :=
    Lib.hid (fun W hb => sides_any d V M v k x y W (h.on hb) hv hk hx)
  obtain ⟨A, g, tv, c, tm, q, m, na, ncap, gb, goff, gcap, fb, foff, fcap, ns, F⟩ := d
  obtain ⟨c0, -, -, c3, -⟩ := h.cG
  obtain ⟨l1, l2⟩ := h.len
  obtain ⟨g1, g2, -⟩ := h.lt
  dsimp only at c0 c3 hv hk hx l1 l2 g1 g2 HSD ⊢
  have hk3 : k ≤ 1000 := by omega
  obtain ⟨z1, -⟩ := h.cV (i := v) (by dsimp only; omega)
  obtain ⟨nb, noff, hna, hnl, e1, e2⟩ := h.net.at_ hk
  dsimp only at e1 e2 hna z1
  subst hna
  rw [hx] at e1 e2
  dsimp only at e1 e2
  have HP : Hid (decide ((x : Int) < 0) = false) := Lib.hid (decide_eq_false (by omega))
  have hva : (v : Int) - 1 = (k : Int) := by omega
  have d1 : (k : Int) < (m : Int) := by omega
  have d2 : 0 ≤ (k : Int) := by omega
  have d3 : (v : Int) < (q : Int) := by omega
  have d4 : 0 ≤ (v : Int) := by omega
  have d5 : v ≤ 1001 := by omega
  have c1 : ((v : Int) == 0) = false := by simp; omega
  have c2 : (v == 0) = false := by simp; omega
  obtain ⟨a, ha⟩ : ∃ a, a = tLit V (x : Int) := ⟨_, rfl⟩
  obtain ⟨b, hb⟩ : ∃ b, b = tLit V (y : Int) := ⟨_, rfl⟩
  obtain ⟨r, hr⟩ : ∃ r, r = V.getD v 0 := ⟨_, rfl⟩
  rw [← ha, ← hb] at HSD
  rw [← hr] at z1
  rw [← ha, ← hb, ← hr]
  obtain ⟨x2, hx2⟩ : ∃ x2, x2 = x / 2 := ⟨_, rfl⟩
  obtain ⟨y2, hy2⟩ : ∃ y2, y2 = y / 2 := ⟨_, rfl⟩
  have HVX : Hid (∀ W, Calls Try.prog 39 #[.int .i64 (x : Int)] W fun e w' => e = .returned (.int .i64 (x2 : Int)) ∧ w' = W) := Lib.hid (fun W => by rw [hx2]; exact Var_q (l := x) (by omega) W)
  have HVY : Hid (∀ W, Calls Try.prog 39 #[.int .i64 (y : Int)] W fun e w' => e = .returned (.int .i64 (y2 : Int)) ∧ w' = W) := Lib.hid (fun W => by rw [hy2]; exact Var_q (l := y) (by omega) W)
  rw [← hx2, ← hy2]
  obtain ⟨L, hL⟩ : ∃ L, L = if r = 1 then [(x2 : Int), (y2 : Int)] else if a ≠ 0 then [(y2 : Int)] else if b ≠ 0 then [(x2 : Int)] else [] := ⟨_, rfl⟩
  have HL := Lib.hid hL
  rw [← hL]
  have HCE : Hid (∀ W, Below w.heap.size w W → W.cell? ⟨g, 0, none⟩ = some (.slice (some ⟨nb, noff, none⟩) m ncap) ∧ W.cell? ⟨g, 3, none⟩ = some (.slice (some ⟨tv, 0, none⟩) q c) ∧ W.cell? ⟨tv, v, none⟩ = some (.int .i64 r) ∧ W.cell? ⟨nb, noff + k * 2, none⟩ = some (.int .i64 (x : Int)) ∧ W.cell? ⟨nb, noff + k * 2 + 1, none⟩ = some (.int .i64 (y : Int))) :=
    Lib.hid (fun W hb => ⟨(hb.cell (p := ⟨g, 0, none⟩) g1).trans c0, (hb.cell (p := ⟨g, 3, none⟩) g1).trans c3, (hb.cell (p := ⟨tv, v, none⟩) g2).trans z1, (hb.cell (p := ⟨nb, noff + k * 2, none⟩) hnl).trans e1, (hb.cell (p := ⟨nb, noff + k * 2 + 1, none⟩) hnl).trans e2⟩)
  clear h l1 hv hx ha hb hr g1 g2 hnl hx2 hy2 hL
  go_enter Try.func47, Try.ntmps47
  go_wp2_with fail
  go_at_call 24; refine (ternIn_of (y : Int) HP.out _).mono ?_; rintro e w2 ⟨rfl, hb⟩
  have HB := Lib.hid hb
  clear hb c0 c3 z1 e1 e2
  obtain ⟨c0, c3, z1, e1, e2⟩ := HCE.out _ HB.out
  go_upto_region 4 with fail
  obtain ⟨W1, hW1⟩ : ∃ W1, W1 = w2.alloc (.cells #[.int .i64 (x : Int), .int .i64 (y : Int)] 40) := ⟨_, rfl⟩
  obtain ⟨X, hX⟩ : ∃ X, X = w2.heap.size := ⟨_, rfl⟩
  have hXl : X < W1.heap.size := by rw [hW1, hX]; simp
  have HX : Hid (∀ W, Below W1.heap.size W1 W → W.cell? ⟨X, 0, none⟩ = some (.int .i64 (x : Int)) ∧ W.cell? ⟨X, 1, none⟩ = some (.int .i64 (y : Int))) := Lib.hid (fun W hb =>
    ⟨(hb.cell (p := ⟨X, 0, none⟩) hXl).trans (by rw [hW1, hX]; exact (box_at _ _ _ _).1), (hb.cell (p := ⟨X, 1, none⟩) hXl).trans (by rw [hW1, hX]; exact (box_at _ _ _ _).2)⟩)
  have HBX : Hid (Below w.heap.size w W1) := Lib.hid (HB.out.trans ((by rw [hW1]; exact box_below w2 _ _ _ : Below w2.heap.size w2 W1).mono HB.out.size))
  rw [← hX, ← hW1]
  clear hX hW1 c0 c3 z1 e1 e2 hXl hva
  go_wp2_with fail
  go_at_call 52; refine (HSD.out _ HBX.out).mono ?_; rintro e w3 ⟨rfl, hb⟩
  have HB3 := Lib.hid hb
  have HB3' := Lib.hid (HBX.out.trans (hb.mono HBX.out.size))
  clear hb
  obtain ⟨c0, c3, z1, e1, e2⟩ := HCE.out _ HB3'.out
  obtain ⟨x0, x1⟩ := HX.out _ HB3.out
  clear c0 e1 e2 HSD HCE HX
  by_cases r1 : r = 1
  · subst r1
    have HE : Hid (L = [(x2 : Int), (y2 : Int)]) := Lib.hid (by rw [HL.out, if_pos rfl])
    go_upto_region 6 with fail
    go_region_held3 (fun w' => w'.cell? ⟨X, 0, none⟩ = some (.int .i64 (x : Int)) ∧ w'.cell? ⟨X, 1, none⟩ = some (.int .i64 (y : Int)))
      (go_keep)
      (first | (go_at_call_of 39 (Value.int IntKind.i64 (x : Int)); refine (HVX.out _).mono ?_; rintro e w4 ⟨rfl, rfl⟩) | (go_at_call 39; refine (HVY.out _).mono ?_; rintro e w4 ⟨rfl, rfl⟩))
    clear x0 x1
    go_wp2_with fail
    go_ret
    rw [HE.out]; exact told_drew (told_lit (L := [_, _]) HB3'.out rfl (by simp))
  · have t1 : (r == 1) = false := by simpa using r1
    by_cases a0 : a = 0
    · subst a0
      by_cases b0 : b = 0
      · subst b0
        have HE : Hid (L = []) := Lib.hid (by rw [HL.out, if_neg r1, if_neg (by simp), if_neg (by simp)])
        clear r1
        go_wp2_with fail
        go_ret
        rw [HE.out]; exact told_nil HB3'.out
      · have t2 : (b != 0) = true := by simpa using b0
        have HE : Hid (L = [(x2 : Int)]) := Lib.hid (by rw [HL.out, if_neg r1, if_neg (by simp), if_pos b0])
        clear r1 b0
        go_wp2_with fail
        go_at_call 39; refine (HVX.out _).mono ?_; rintro e w4 ⟨rfl, rfl⟩
        go_wp2_with fail
        go_ret
        rw [HE.out]; exact told_lit (L := [_]) HB3'.out rfl (by simp)
    · have t2 : (a != 0) = true := by simpa using a0
      have HE : Hid (L = [(y2 : Int)]) := Lib.hid (by rw [HL.out, if_neg r1, if_pos a0])
      clear r1 a0
      go_wp2_with fail
      go_at_call 39; refine (HVY.out _).mono ?_; rintro e w4 ⟨rfl, rfl⟩
      go_wp2_with fail
      go_ret
      rw [HE.out]; exact told_lit (L := [_]) HB3'.out rfl (by simp)
theorem causes_any (d : DC) (V : List Int) (M : List Bool) (v : Nat) (w : World) (h : Dp d w V M) (hg : GoodN d.ns) (hv : v ≤ d.m) :
    Calls Try.prog 47 #[.pointer (some ⟨d.g, 0, none⟩), .int .i64 (v : Int)] w (Told (causeL V d.ns v) w) := by
  by_cases hno : v = 0 ∨ (d.ns.getD (v - 1) (0, 0)).1 < 0
  · exact causes_no d V M v w h hv hno
  · have hl := h.lens.2.2.2
    have hle := h.len
    have hv0 : v ≠ 0 := fun e => hno (.inl e)
    obtain ⟨a, b, e, -, ga, gb⟩ := gate_nat hg (k := v - 1) (by omega) (fun e => hno (.inr e))
    exact causes_gate d V M v (v - 1) a b w h (by omega) (by omega) e (by omega) (by omega)
end Go.Proofs.Ytoacedadfjoneaa.aig
