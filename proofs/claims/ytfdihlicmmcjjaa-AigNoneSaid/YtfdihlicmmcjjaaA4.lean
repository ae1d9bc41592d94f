/- The walks of the document's Or, Mux and Xor. -/
import Derived.Test.YtfdihlicmmcjjaaA3
namespace Go.Proofs.Ytfdihlicmmcjjaa.aig
open Go.RowKit
open Go.Proofs.Ytfdihlicmmcjjaa.mem Go.Proofs.Ytfdihlicmmcjjaa.agf

theorem and_len (N : Net) (a b : Int) : (andF N a b).2.length ≤ N.length + 1 ∧ N.length ≤ (andF N a b).2.length ∧ -1 ≤ (andF N a b).1 ∧ (andF N a b).1 ≤ 2 * ((andF N a b).2.length : Int) + 1 := by
  by_cases hh : hasB N.length a = true ∧ hasB N.length b = true
  · have h := and_way hh.1 hh.2
    obtain ⟨e1, e2⟩ := and_ext hh.1 hh.2
    have e3 := has_iff.1 e2
    have e4 := e1.len
    refine ⟨?_, e4, by omega, e3.2⟩
    generalize (andF N a b).1 = r at h
    generalize (andF N a b).2 = M at h ⊢
    cases h with
    | zero h => omega
    | right h => omega
    | left h => omega
    | there i x y hx hi h => omega
    | fresh x y hx lo lt hi h => simp
  · have hn : hasB N.length a = false ∨ hasB N.length b = false := by
      cases h1 : hasB N.length a
      · exact .inl rfl
      · cases h2 : hasB N.length b
        · exact .inr rfl
        · exact absurd ⟨h1, h2⟩ hh
    rw [andF_no hn]
    exact ⟨Nat.le_succ _, Nat.le_refl _, Int.le_refl _, by show (-1 : Int) ≤ 2 * (N.length : Int) + 1; omega⟩
theorem nt_bd {l : Int} {m : Nat} (h : -1 ≤ l ∧ l ≤ 2 * (m : Int) + 1) : -1 ≤ nt l ∧ nt l ≤ 2 * (m : Int) + 1 := by
  unfold nt; split
  · omega
  · split <;> omega
theorem or_len (N : Net) (a b : Int) : (orF N a b).2.length ≤ N.length + 1 ∧ N.length ≤ (orF N a b).2.length ∧ -1 ≤ (orF N a b).1 ∧ (orF N a b).1 ≤ 2 * ((orF N a b).2.length : Int) + 1 := by
  obtain ⟨h1, h2, h3, h4⟩ := and_len N (nt a) (nt b)
  obtain ⟨h5, h6⟩ := nt_bd ⟨h3, h4⟩
  exact ⟨h1, h2, h5, h6⟩
theorem mux_len (N : Net) (c a b : Int) : (muxF N c a b).2.length ≤ N.length + 3 ∧ N.length ≤ (muxF N c a b).2.length ∧ -1 ≤ (muxF N c a b).1 ∧ (muxF N c a b).1 ≤ 2 * ((muxF N c a b).2.length : Int) + 1 := by
  unfold muxF
  split
  · obtain ⟨h1, h2, -, -⟩ := and_len N c a
    obtain ⟨k1, k2, -, -⟩ := and_len (andF N c a).2 (nt c) b
    obtain ⟨l1, l2, l3, l4⟩ := or_len (andF (andF N c a).2 (nt c) b).2 (andF N c a).1 (andF (andF N c a).2 (nt c) b).1
    exact ⟨Nat.le_trans l1 (by omega), Nat.le_trans (by omega) l2, l3, l4⟩
  · exact ⟨Nat.le_add_right _ _, Nat.le_refl _, Int.le_refl _, by show (-1 : Int) ≤ 2 * (N.length : Int) + 1; omega⟩
def In64 (a : Int) : Prop := -9223372036854775808 ≤ a ∧ a ≤ 9223372036854775807
theorem nt_in {a : Int} (h : In64 a) : In64 (nt a) := by
  unfold In64 nt at *
  split
  · omega
  · split <;> omega
theorem RStep.trans {A B h : Nat} {sv sv1 : Value} {r : Int} {M : Net} {w w1 w2 : World} {e : Ending} (h1 : Moved (ROwn h sv) (ROwn h sv1) w w1) (k : RStep A B h sv1 r M w1 e w2) : RStep A B h sv r M w e w2 := by
  obtain ⟨sv', e1, e2, e3⟩ := k
  exact ⟨sv', e1, e2, h1.trans e3⟩
set_option maxHeartbeats 1600000 in
theorem refOr_any (A B h : Nat) (sv : Value) (N : Net) (a b : Int) (w : World) (s : Rs A B w h sv N) (hN : N.length ≤ 1000000) (ha : In64 a) (hb : In64 b) :
    Calls Try.prog 40 #[.pointer (some ⟨h, 0, none⟩), .int .i64 a, .int .i64 b] w (RStep A B h sv (orF N a b).1 (orF N a b).2 w) := by
  have HC := Lib.hid (refAnd_any A B h sv N (nt a) (nt b) w s hN)
  obtain ⟨n1, n2, n3, n4⟩ := and_len N (nt a) (nt b)
  have HI : Hid (-9223372036854775808 ≤ (andF N (nt a) (nt b)).1 ∧ (andF N (nt a) (nt b)).1 ≤ 9223372036854775807) := Lib.hid (by omega)
  have HA := Lib.hid ha
  have HB := Lib.hid hb
  obtain ⟨r, hr⟩ : ∃ r, r = (andF N (nt a) (nt b)).1 := ⟨_, rfl⟩
  have HO : Hid ((orF N a b).1 = nt r ∧ (orF N a b).2 = (andF N (nt a) (nt b)).2) := Lib.hid ⟨by rw [hr]; rfl, rfl⟩
  rw [← hr] at HC HI
  clear s ha hb n1 n2 n3 n4 hr
  go_enter Try.func40, Try.ntmps40
  go_wp2_with fail
  go_at_call 54; refine (refNot_any a _ HA.out).mono ?_; rintro e w' ⟨rfl, rfl⟩
  go_wp2_with fail
  go_at_call 54; refine (refNot_any b _ HB.out).mono ?_; rintro e w' ⟨rfl, rfl⟩
  go_wp2_with fail
  go_at_call 39; refine HC.out.mono ?_; rintro e w1 ⟨sv', rfl, s1, s2⟩
  have HE : Hid (RStep A B h sv (orF N a b).1 (orF N a b).2 w (.returned (.int .i64 (nt r))) w1) := Lib.hid (by rw [HO.out.1, HO.out.2]; exact ⟨sv', rfl, s1, s2⟩)
  clear s1 s2
  go_wp2_with fail
  go_at_call 54; refine (refNot_any r _ HI.out).mono ?_; rintro e w' ⟨rfl, rfl⟩
  go_wp2_with fail
  go_ret
  exact HE.out
theorem muxF_no {N : Net} {c a b : Int} (h : hasB N.length c = false ∨ hasB N.length a = false ∨ hasB N.length b = false) : muxF N c a b = (-1, N) := by
  unfold muxF
  rcases h with h | h | h <;> rw [h] <;> simp
theorem muxF_yes {N : Net} {c a b : Int} (hc : hasB N.length c = true) (ha : hasB N.length a = true) (hb : hasB N.length b = true) :
    muxF N c a b = orF (andF (andF N c a).2 (nt c) b).2 (andF N c a).1 (andF (andF N c a).2 (nt c) b).1 := by
  unfold muxF
  rw [hc, ha, hb]; rfl
set_option maxHeartbeats 1600000 in
theorem refMux_any (A B h : Nat) (sv : Value) (N : Net) (c a b : Int) (w : World) (s : Rs A B w h sv N) (hN : N.length ≤ 900000) :
    Calls Try.prog 42 #[.pointer (some ⟨h, 0, none⟩), .int .i64 c, .int .i64 a, .int .i64 b] w (RStep A B h sv (muxF N c a b).1 (muxF N c a b).2 w) := by
  have HS := Lib.hid s
  clear s
  cases hc : hasB N.length c
  · have HR : Hid (RStep A B h sv (muxF N c a b).1 (muxF N c a b).2 w (.returned (.int .i64 (-1))) w) := Lib.hid (by rw [muxF_no (.inl hc)]; exact RStep.same HS.out rfl)
    have H1 := Lib.hid hc
    clear hc
    go_enter Try.func42, Try.ntmps42
    go_wp2_with fail
    go_at_call 53; refine (refHas_of H1.out _ HS.out (by omega)).mono ?_; rintro e w' ⟨rfl, rfl⟩
    go_wp2_with fail
    go_ret
    exact HR.out
  · cases ha : hasB N.length a
    · have HR : Hid (RStep A B h sv (muxF N c a b).1 (muxF N c a b).2 w (.returned (.int .i64 (-1))) w) := Lib.hid (by rw [muxF_no (.inr (.inl ha))]; exact RStep.same HS.out rfl)
      have H1 := Lib.hid hc
      have H2 := Lib.hid ha
      clear hc ha
      go_enter Try.func42, Try.ntmps42
      go_wp2_with fail
      go_at_call 53; refine (refHas_of H1.out _ HS.out (by omega)).mono ?_; rintro e w' ⟨rfl, rfl⟩
      go_wp2_with fail
      go_at_call 53; refine (refHas_of H2.out _ HS.out (by omega)).mono ?_; rintro e w' ⟨rfl, rfl⟩
      go_wp2_with fail
      go_ret
      exact HR.out
    · cases hb : hasB N.length b
      · have HR : Hid (RStep A B h sv (muxF N c a b).1 (muxF N c a b).2 w (.returned (.int .i64 (-1))) w) := Lib.hid (by rw [muxF_no (.inr (.inr hb))]; exact RStep.same HS.out rfl)
        have H1 := Lib.hid hc
        have H2 := Lib.hid ha
        have H3 := Lib.hid hb
        clear hc ha hb
        go_enter Try.func42, Try.ntmps42
        go_wp2_with fail
        go_at_call 53; refine (refHas_of H1.out _ HS.out (by omega)).mono ?_; rintro e w' ⟨rfl, rfl⟩
        go_wp2_with fail
        go_at_call 53; refine (refHas_of H2.out _ HS.out (by omega)).mono ?_; rintro e w' ⟨rfl, rfl⟩
        go_wp2_with fail
        go_at_call 53; refine (refHas_of H3.out _ HS.out (by omega)).mono ?_; rintro e w' ⟨rfl, rfl⟩
        go_wp2_with fail
        go_ret
        exact HR.out
      · have c0 := has_iff.1 hc
        have HI : Hid (In64 c) := Lib.hid (by unfold In64; omega)
        obtain ⟨m1, m2, m3, m4⟩ := and_len N c a
        have HL1 : Hid ((andF N c a).2.length ≤ 1000000 ∧ In64 (andF N c a).1) := Lib.hid ⟨by omega, by unfold In64; omega⟩
        obtain ⟨k1, k2, k3, k4⟩ := and_len (andF N c a).2 (nt c) b
        have HL2 : Hid ((andF (andF N c a).2 (nt c) b).2.length ≤ 1000000 ∧ In64 (andF (andF N c a).2 (nt c) b).1) := Lib.hid ⟨by omega, by unfold In64; omega⟩
        have HM := Lib.hid (muxF_yes hc ha hb)
        have H1 := Lib.hid hc
        have H2 := Lib.hid ha
        have H3 := Lib.hid hb
        obtain ⟨x, hx⟩ : ∃ x, x = andF N c a := ⟨_, rfl⟩
        rw [← hx] at HL1 HL2 HM
        have HX := Lib.hid hx
        obtain ⟨y, hy⟩ : ∃ y, y = andF x.2 (nt c) b := ⟨_, rfl⟩
        rw [← hy] at HL2 HM
        have HY := Lib.hid hy
        obtain ⟨x1, x2⟩ := x
        obtain ⟨y1, y2⟩ := y
        clear hc ha hb c0 m1 m2 m3 m4 k1 k2 k3 k4 hx hy
        go_enter Try.func42, Try.ntmps42
        go_wp2_with fail
        go_at_call 53; refine (refHas_of H1.out _ HS.out (by omega)).mono ?_; rintro e w' ⟨rfl, rfl⟩
        go_wp2_with fail
        go_at_call 53; refine (refHas_of H2.out _ HS.out (by omega)).mono ?_; rintro e w' ⟨rfl, rfl⟩
        go_wp2_with fail
        go_at_call 53; refine (refHas_of H3.out _ HS.out (by omega)).mono ?_; rintro e w' ⟨rfl, rfl⟩
        go_wp2_with fail
        go_at_call 39; refine (refAnd_any A B h sv N c a _ HS.out (by omega)).mono ?_; rintro e w1 ⟨sv1, rfl, s1, s2⟩
        rw [← HX.out] at s1 ⊢
        have HS1 := Lib.hid s1
        have HM1 := Lib.hid s2
        clear s1 s2
        go_wp2_with fail
        go_at_call 54; refine (refNot_any c _ HI.out).mono ?_; rintro e w' ⟨rfl, rfl⟩
        go_wp2_with fail
        go_at_call 39; refine (refAnd_any A B h sv1 x2 (nt c) b _ HS1.out HL1.out.1).mono ?_; rintro e w2 ⟨sv2, rfl, s1, s2⟩
        rw [← HY.out] at s1 ⊢
        have HS2 := Lib.hid s1
        have HM2 := Lib.hid (HM1.out.trans s2)
        clear s1 s2
        go_wp2_with fail
        go_at_call 40; refine (refOr_any A B h sv2 y2 x1 y1 _ HS2.out HL2.out.1 HL1.out.2 HL2.out.2).mono ?_; rintro e w3 h3
        have HE := Lib.hid (RStep.trans HM2.out h3)
        obtain ⟨sv3, rfl, -, -⟩ := h3
        go_wp2_with fail
        go_ret
        rw [HM.out]
        exact HE.out
theorem refXor_any (A B h : Nat) (sv : Value) (N : Net) (a b : Int) (w : World) (s : Rs A B w h sv N) (hN : N.length ≤ 900000) (hb : In64 b) :
    Calls Try.prog 41 #[.pointer (some ⟨h, 0, none⟩), .int .i64 a, .int .i64 b] w (RStep A B h sv (xorF N a b).1 (xorF N a b).2 w) := by
  have HC := Lib.hid (refMux_any A B h sv N a (nt b) b w s hN)
  have HB := Lib.hid hb
  clear s hb
  go_enter Try.func41, Try.ntmps41
  go_wp2_with fail
  go_at_call 54; refine (refNot_any b _ HB.out).mono ?_; rintro e w' ⟨rfl, rfl⟩
  go_wp2_with fail
  go_at_call 42; refine HC.out.mono ?_; rintro e w1 h1
  have HE : Hid (RStep A B h sv (xorF N a b).1 (xorF N a b).2 w e w1) := Lib.hid h1
  obtain ⟨sv1, rfl, -, -⟩ := h1
  go_wp2_with fail
  go_ret
  exact HE.out
end Go.Proofs.Ytfdihlicmmcjjaa.aig
