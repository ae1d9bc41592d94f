/- The walks of the project's And, Or, Mux, Xor, All. -/
import Derived.Test.YtfdihlicmmcjjaaY2
namespace Go.Proofs.Ytfdihlicmmcjjaa.aig
open Go.RowKit Go.Maps Go.WideMaps
open Go.Proofs.Ytfdihlicmmcjjaa.mem Go.Proofs.Ytfdihlicmmcjjaa.agf Go.Proofs.Ytfdihlicmmcjjaa.fns

theorem GRep.on {A : Nat} {w w' : World} {g mb : Nat} {v : Value} {N : Net} (r : GRep A w g mb v N) (hb : Below w.heap.size w w') : GRep A w' g mb v N := by
  obtain ⟨D, q0, s, h1, h2⟩ := r; exact ⟨D, q0, s.on hb, h1, h2⟩
theorem GRep.ge {A : Nat} {w : World} {g mb : Nat} {v : Value} {N : Net} (r : GRep A w g mb v N) : ∀ k, GOwn g mb v k → A ≤ k ∧ k < w.heap.size := by
  obtain ⟨D, q0, s, h1, h2⟩ := r; exact s.ge
theorem known_of {A g mb : Nat} {v : Value} {N : Net} {P : Nat → Prop} {u : Value} {zs : List Int} {b : Bool} (h : allHas N.length zs = b) (w : World) (r : GRep A w g mb v N) (hN : N.length ≤ 1000000) (hz : KInts P w u zs) (hn : zs.length ≤ 1000) :
    Calls Try.prog 45 #[.pointer (some ⟨g, 0, none⟩), u] w fun e w' => e = .returned (.bool b) ∧ w = w' := by
  obtain ⟨D, q0, s, h1, h2⟩ := r
  have := known_any A g mb v N D q0 P u zs w s hN hz hn
  rw [h] at this; exact this
theorem kints_lit (w : World) (cs : Array Value) (t : TypeId) (zs : List Int) (h : cs = (zs.map (Value.int .i64)).toArray) (h1 : zs.length ≤ 1000) : KInts (fun k => k < w.heap.size) (w.alloc (.cells cs t)) (.slice (some ⟨w.heap.size, 0, none⟩) zs.length zs.length) zs := by
  subst h
  refine ⟨_, _, rfl, Nat.le_refl _, by unfold maxLen; omega, fun _ => ⟨w.heap.size, 0, rfl, by simp, by simp, fun i hi => ?_⟩⟩
  have hb : (w.alloc (.cells (zs.map (Value.int .i64)).toArray t)).heap[w.heap.size]? = some (.cells (zs.map (Value.int .i64)).toArray t (0, 0)) := by
    show (w.heap.push _)[w.heap.size]? = _
    rw [Array.getElem?_push, if_pos rfl]
  rw [Nat.zero_add, Joins.cell_of_block hb i]
  simp [List.getD, hi]
theorem kints_two (w : World) (a b : Int) : KInts (fun k => k < w.heap.size) (w.alloc (.cells #[.int .i64 a, .int .i64 b] 3)) (.slice (some ⟨w.heap.size, 0, none⟩) 2 2) [a, b] := kints_lit w _ _ [a, b] rfl (by simp)
theorem kints_three (w : World) (a b c : Int) : KInts (fun k => k < w.heap.size) (w.alloc (.cells #[.int .i64 a, .int .i64 b, .int .i64 c] 3)) (.slice (some ⟨w.heap.size, 0, none⟩) 3 3) [a, b, c] := kints_lit w _ _ [a, b, c] rfl (by simp)
theorem gstep_same {A g mb : Nat} {v : Value} {r : Int} {N M : Net} {w w' : World} (s : GRep A w g mb v N) (hM : M = N) (hb : Below w.heap.size w w') : GStep A g mb v M r w (.returned (.int .i64 r)) w' :=
  ⟨v, rfl, hM ▸ s.on hb, moved_of_below hb⟩
theorem has2 {m : Nat} {a b : Int} : allHas m [a, b] = (hasB m a && hasB m b) := by simp [allHas]
theorem has3 {m : Nat} {a b c : Int} : allHas m [a, b, c] = (hasB m a && (hasB m b && hasB m c)) := by simp [allHas]
/-- And, of what is no literal of the store -/
theorem and_bad (A g mb : Nat) (v : Value) (N : Net) (a b : Int) (w : World) (r : GRep A w g mb v N) (hN : N.length ≤ 1000000) (hh : (hasB N.length a && hasB N.length b) = false) :
    Calls Try.prog 30 #[.pointer (some ⟨g, 0, none⟩), .int .i64 a, .int .i64 b] w (GStep A g mb v (andF N a b).2 (andF N a b).1 w) := by
  have HB : Hid (Below w.heap.size w (w.alloc (.cells #[.int .i64 a, .int .i64 b] 3))) := Lib.hid ((Below.refl _ _).alloc (Nat.le_refl _) _)
  have e : andF N a b = (-1, N) := by unfold andF; rw [hh]; rfl
  have HE : Hid (GStep A g mb v (andF N a b).2 (andF N a b).1 w (.returned (.int .i64 (-1))) (w.alloc (.cells #[.int .i64 a, .int .i64 b] 3))) := Lib.hid (by rw [e]; exact gstep_same r rfl HB.out)
  have HW := Lib.hid (r.on HB.out)
  have HK : Hid (allHas N.length [a, b] = false) := Lib.hid (has2.trans hh)
  clear r hh e
  go_enter Try.func30, Try.ntmps30
  go_wp2_with fail
  go_at_call 45; refine (known_of HK.out _ HW.out hN (kints_two w a b) (by simp)).mono ?_; rintro e w' ⟨rfl, rfl⟩
  go_wp2_with fail
  go_ret
  exact HE.out
theorem and_z1 (A g mb : Nat) (v : Value) (N : Net) (a b : Int) (w : World) (r : GRep A w g mb v N) (hN : N.length ≤ 1000000) (ha : hasB N.length a = true) (hb : hasB N.length b = true) (z1 : a = 0) :
    Calls Try.prog 30 #[.pointer (some ⟨g, 0, none⟩), .int .i64 a, .int .i64 b] w (GStep A g mb v (andF N a b).2 (andF N a b).1 w) := by
  have HB : Hid (Below w.heap.size w (w.alloc (.cells #[.int .i64 a, .int .i64 b] 3))) := Lib.hid ((Below.refl _ _).alloc (Nat.le_refl _) _)
  have e : andF N a b = (0, N) := andF_zero ha hb (.inl z1)
  have HE : Hid (GStep A g mb v (andF N a b).2 (andF N a b).1 w (.returned (.int .i64 (0))) (w.alloc (.cells #[.int .i64 a, .int .i64 b] 3))) := Lib.hid (by rw [e]; exact gstep_same r rfl HB.out)
  have HW := Lib.hid (r.on HB.out)
  have HK : Hid (allHas N.length [a, b] = true) := Lib.hid (by rw [has2, ha, hb]; rfl)
  have HNT : Hid (litNot b = nt b) := Lib.hid (not_of_has hN hb)
  have c1 : (a == 0) = true := by simpa using z1
  clear z1
  clear r e ha hb
  go_enter Try.func30, Try.ntmps30
  go_wp2_with fail
  go_at_call 45; refine (known_of HK.out _ HW.out hN (kints_two w a b) (by simp)).mono ?_; rintro e w' ⟨rfl, rfl⟩
  go_wp2_with fail
  go_ret
  exact HE.out
theorem and_z2 (A g mb : Nat) (v : Value) (N : Net) (a b : Int) (w : World) (r : GRep A w g mb v N) (hN : N.length ≤ 1000000) (ha : hasB N.length a = true) (hb : hasB N.length b = true) (z1 : ¬ a = 0) (z2 : b = 0) :
    Calls Try.prog 30 #[.pointer (some ⟨g, 0, none⟩), .int .i64 a, .int .i64 b] w (GStep A g mb v (andF N a b).2 (andF N a b).1 w) := by
  have HB : Hid (Below w.heap.size w (w.alloc (.cells #[.int .i64 a, .int .i64 b] 3))) := Lib.hid ((Below.refl _ _).alloc (Nat.le_refl _) _)
  have e : andF N a b = (0, N) := andF_zero ha hb (.inr (.inl z2))
  have HE : Hid (GStep A g mb v (andF N a b).2 (andF N a b).1 w (.returned (.int .i64 (0))) (w.alloc (.cells #[.int .i64 a, .int .i64 b] 3))) := Lib.hid (by rw [e]; exact gstep_same r rfl HB.out)
  have HW := Lib.hid (r.on HB.out)
  have HK : Hid (allHas N.length [a, b] = true) := Lib.hid (by rw [has2, ha, hb]; rfl)
  have HNT : Hid (litNot b = nt b) := Lib.hid (not_of_has hN hb)
  have c1 : (a == 0) = false := by simpa using z1
  have c2 : (b == 0) = true := by simpa using z2
  clear z1 z2
  clear r e ha hb
  go_enter Try.func30, Try.ntmps30
  go_wp2_with fail
  go_at_call 45; refine (known_of HK.out _ HW.out hN (kints_two w a b) (by simp)).mono ?_; rintro e w' ⟨rfl, rfl⟩
  go_wp2_with fail
  go_ret
  exact HE.out
theorem and_z3 (A g mb : Nat) (v : Value) (N : Net) (a b : Int) (w : World) (r : GRep A w g mb v N) (hN : N.length ≤ 1000000) (ha : hasB N.length a = true) (hb : hasB N.length b = true) (z1 : ¬ a = 0) (z2 : ¬ b = 0) (z3 : a = nt b) :
    Calls Try.prog 30 #[.pointer (some ⟨g, 0, none⟩), .int .i64 a, .int .i64 b] w (GStep A g mb v (andF N a b).2 (andF N a b).1 w) := by
  have HB : Hid (Below w.heap.size w (w.alloc (.cells #[.int .i64 a, .int .i64 b] 3))) := Lib.hid ((Below.refl _ _).alloc (Nat.le_refl _) _)
  have e : andF N a b = (0, N) := andF_zero ha hb (.inr (.inr z3))
  have HE : Hid (GStep A g mb v (andF N a b).2 (andF N a b).1 w (.returned (.int .i64 (0))) (w.alloc (.cells #[.int .i64 a, .int .i64 b] 3))) := Lib.hid (by rw [e]; exact gstep_same r rfl HB.out)
  have HW := Lib.hid (r.on HB.out)
  have HK : Hid (allHas N.length [a, b] = true) := Lib.hid (by rw [has2, ha, hb]; rfl)
  have HNT : Hid (litNot b = nt b) := Lib.hid (not_of_has hN hb)
  have c1 : (a == 0) = false := by simpa using z1
  have c2 : (b == 0) = false := by simpa using z2
  have c3 : (a == nt b) = true := by simpa using z3
  clear z1 z2 z3
  clear r e ha hb
  go_enter Try.func30, Try.ntmps30
  go_wp2_with fail
  go_at_call 45; refine (known_of HK.out _ HW.out hN (kints_two w a b) (by simp)).mono ?_; rintro e w' ⟨rfl, rfl⟩
  go_wp2_with fail
  go_at_call 47; refine (lits.Not_any b _).mono ?_; rintro e w' ⟨rfl, rfl⟩
  rw [HNT.out]
  go_wp2_with fail
  go_ret
  exact HE.out
theorem and_o1 (A g mb : Nat) (v : Value) (N : Net) (a b : Int) (w : World) (r : GRep A w g mb v N) (hN : N.length ≤ 1000000) (ha : hasB N.length a = true) (hb : hasB N.length b = true) (z : ¬ (a = 0 ∨ b = 0 ∨ a = nt b)) (o1 : a = 1) :
    Calls Try.prog 30 #[.pointer (some ⟨g, 0, none⟩), .int .i64 a, .int .i64 b] w (GStep A g mb v (andF N a b).2 (andF N a b).1 w) := by
  have HB : Hid (Below w.heap.size w (w.alloc (.cells #[.int .i64 a, .int .i64 b] 3))) := Lib.hid ((Below.refl _ _).alloc (Nat.le_refl _) _)
  have e : andF N a b = (b, N) := andF_right ha hb z (.inl o1)
  have HE : Hid (GStep A g mb v (andF N a b).2 (andF N a b).1 w (.returned (.int .i64 b)) (w.alloc (.cells #[.int .i64 a, .int .i64 b] 3))) := Lib.hid (by rw [e]; exact gstep_same r rfl HB.out)
  have HW := Lib.hid (r.on HB.out)
  have HK : Hid (allHas N.length [a, b] = true) := Lib.hid (by rw [has2, ha, hb]; rfl)
  have HNT : Hid (litNot b = nt b) := Lib.hid (not_of_has hN hb)
  have c1 : (a == 0) = false := by simpa using fun e => z (.inl e)
  have c2 : (b == 0) = false := by simpa using fun e => z (.inr (.inl e))
  have c3 : (a == nt b) = false := by simpa using fun e => z (.inr (.inr e))
  have c4 : (a == 1) = true := by simpa using o1
  clear z o1
  clear r e ha hb
  go_enter Try.func30, Try.ntmps30
  go_wp2_with fail
  go_at_call 45; refine (known_of HK.out _ HW.out hN (kints_two w a b) (by simp)).mono ?_; rintro e w' ⟨rfl, rfl⟩
  go_wp2_with fail
  go_at_call 47; refine (lits.Not_any b _).mono ?_; rintro e w' ⟨rfl, rfl⟩
  rw [HNT.out]
  go_wp2_with fail
  go_ret
  exact HE.out
theorem and_o2 (A g mb : Nat) (v : Value) (N : Net) (a b : Int) (w : World) (r : GRep A w g mb v N) (hN : N.length ≤ 1000000) (ha : hasB N.length a = true) (hb : hasB N.length b = true) (z : ¬ (a = 0 ∨ b = 0 ∨ a = nt b)) (o1 : ¬ a = 1) (o2 : b = 1) :
    Calls Try.prog 30 #[.pointer (some ⟨g, 0, none⟩), .int .i64 a, .int .i64 b] w (GStep A g mb v (andF N a b).2 (andF N a b).1 w) := by
  have HB : Hid (Below w.heap.size w (w.alloc (.cells #[.int .i64 a, .int .i64 b] 3))) := Lib.hid ((Below.refl _ _).alloc (Nat.le_refl _) _)
  have e : andF N a b = (a, N) := by
    by_cases o : a = b
    · rw [andF_right ha hb z (.inr o), o]
    · exact andF_left ha hb z (fun h => by rcases h with h | h; exact o1 h; exact o h) o2
  have HE : Hid (GStep A g mb v (andF N a b).2 (andF N a b).1 w (.returned (.int .i64 a)) (w.alloc (.cells #[.int .i64 a, .int .i64 b] 3))) := Lib.hid (by rw [e]; exact gstep_same r rfl HB.out)
  have HW := Lib.hid (r.on HB.out)
  have HK : Hid (allHas N.length [a, b] = true) := Lib.hid (by rw [has2, ha, hb]; rfl)
  have HNT : Hid (litNot b = nt b) := Lib.hid (not_of_has hN hb)
  have c1 : (a == 0) = false := by simpa using fun e => z (.inl e)
  have c2 : (b == 0) = false := by simpa using fun e => z (.inr (.inl e))
  have c3 : (a == nt b) = false := by simpa using fun e => z (.inr (.inr e))
  have c4 : (a == 1) = false := by simpa using o1
  have c5 : (b == 1) = true := by simpa using o2
  clear z o1 o2
  clear r e ha hb
  go_enter Try.func30, Try.ntmps30
  go_wp2_with fail
  go_at_call 45; refine (known_of HK.out _ HW.out hN (kints_two w a b) (by simp)).mono ?_; rintro e w' ⟨rfl, rfl⟩
  go_wp2_with fail
  go_at_call 47; refine (lits.Not_any b _).mono ?_; rintro e w' ⟨rfl, rfl⟩
  rw [HNT.out]
  go_wp2_with fail
  go_ret
  exact HE.out
theorem and_o3 (A g mb : Nat) (v : Value) (N : Net) (a b : Int) (w : World) (r : GRep A w g mb v N) (hN : N.length ≤ 1000000) (ha : hasB N.length a = true) (hb : hasB N.length b = true) (z : ¬ (a = 0 ∨ b = 0 ∨ a = nt b)) (o1 : ¬ a = 1) (o2 : ¬ b = 1) (o3 : a = b) :
    Calls Try.prog 30 #[.pointer (some ⟨g, 0, none⟩), .int .i64 a, .int .i64 b] w (GStep A g mb v (andF N a b).2 (andF N a b).1 w) := by
  have HB : Hid (Below w.heap.size w (w.alloc (.cells #[.int .i64 a, .int .i64 b] 3))) := Lib.hid ((Below.refl _ _).alloc (Nat.le_refl _) _)
  have e : andF N a b = (a, N) := by rw [andF_right ha hb z (.inr o3), o3]
  have HE : Hid (GStep A g mb v (andF N a b).2 (andF N a b).1 w (.returned (.int .i64 a)) (w.alloc (.cells #[.int .i64 a, .int .i64 b] 3))) := Lib.hid (by rw [e]; exact gstep_same r rfl HB.out)
  have HW := Lib.hid (r.on HB.out)
  have HK : Hid (allHas N.length [a, b] = true) := Lib.hid (by rw [has2, ha, hb]; rfl)
  have HNT : Hid (litNot b = nt b) := Lib.hid (not_of_has hN hb)
  have c1 : (a == 0) = false := by simpa using fun e => z (.inl e)
  have c2 : (b == 0) = false := by simpa using fun e => z (.inr (.inl e))
  have c3 : (a == nt b) = false := by simpa using fun e => z (.inr (.inr e))
  have c4 : (a == 1) = false := by simpa using o1
  have c5 : (b == 1) = false := by simpa using o2
  have c6 : (a == b) = true := by simpa using o3
  clear z o1 o2 o3
  clear r e ha hb
  go_enter Try.func30, Try.ntmps30
  go_wp2_with fail
  go_at_call 45; refine (known_of HK.out _ HW.out hN (kints_two w a b) (by simp)).mono ?_; rintro e w' ⟨rfl, rfl⟩
  go_wp2_with fail
  go_at_call 47; refine (lits.Not_any b _).mono ?_; rintro e w' ⟨rfl, rfl⟩
  rw [HNT.out]
  go_wp2_with fail
  go_ret
  exact HE.out
theorem gstep_behind {A g mb : Nat} {v : Value} {M : Net} {r : Int} {w w1 w' : World} {e : Ending} (hb : Below w.heap.size w w1) (h : GStep A g mb v M r w1 e w') : GStep A g mb v M r w e w' := by
  obtain ⟨v', h1, h2, h3⟩ := h
  exact ⟨v', h1, h2, (moved_of_below hb).trans h3⟩
theorem gstep_trans {A g mb : Nat} {v v1 : Value} {M : Net} {r : Int} {w w1 w' : World} {e : Ending} (hm : Moved (GOwn g mb v) (GOwn g mb v1) w w1) (h : GStep A g mb v1 M r w1 e w') : GStep A g mb v M r w e w' := by
  obtain ⟨v', h1, h2, h3⟩ := h
  exact ⟨v', h1, h2, hm.trans h3⟩
/-- And, of two that are no more to be folded -/
theorem and_put (A g mb : Nat) (v : Value) (N : Net) (a b : Int) (w : World) (r : GRep A w g mb v N) (hN : N.length ≤ 1000000) (ha : hasB N.length a = true) (hb : hasB N.length b = true) (z : ¬ (a = 0 ∨ b = 0 ∨ a = nt b)) (o1 : ¬ a = 1) (o2 : ¬ b = 1) (o3 : ¬ a = b) :
    Calls Try.prog 30 #[.pointer (some ⟨g, 0, none⟩), .int .i64 a, .int .i64 b] w (GStep A g mb v (andF N a b).2 (andF N a b).1 w) := by
  have HB : Hid (Below w.heap.size w (w.alloc (.cells #[.int .i64 a, .int .i64 b] 3))) := Lib.hid ((Below.refl _ _).alloc (Nat.le_refl _) _)
  obtain ⟨a0, a1⟩ := has_iff.1 ha
  obtain ⟨b0, b1⟩ := has_iff.1 hb
  obtain ⟨x, hx⟩ : ∃ x, x = (min a b).toNat := ⟨_, rfl⟩
  obtain ⟨y, hy⟩ : ∃ y, y = (max a b).toNat := ⟨_, rfl⟩
  have HP : Hid (andF N a b = putG N x y) := Lib.hid (by rw [hx, hy]; exact andF_put ha hb z (fun h => by rcases h with h | h; exact o1 h; exact o3 h) o2)
  have HX : Hid (min a b = (x : Int) ∧ max a b = (y : Int) ∧ x ≤ 4000000 ∧ y ≤ 4000000) := Lib.hid (by omega)
  have HC : Hid (∀ p q : Int, p = (x : Int) → q = (y : Int) → Calls Try.prog 48 #[.pointer (some ⟨g, 0, none⟩), .agg #[.int .i64 p, .int .i64 q]] (w.alloc (.cells #[.int .i64 a, .int .i64 b] 3)) (GStep A g mb v (andF N a b).2 (andF N a b).1 w)) := Lib.hid (by
    rintro p q rfl rfl
    obtain ⟨D, q0, s, h1, h2⟩ := r.on HB.out
    rw [HP.out]
    exact (gate_any A g mb v N D q0 x y _ s h2 h1 hN HX.out.2.2.1 HX.out.2.2.2).mono fun e w' h => gstep_behind HB.out h)
  have HW := Lib.hid (r.on HB.out)
  have HK : Hid (allHas N.length [a, b] = true) := Lib.hid (by rw [has2, ha, hb]; rfl)
  have HNT : Hid (litNot b = nt b) := Lib.hid (not_of_has hN hb)
  have c1 : (a == 0) = false := by simpa using fun e => z (.inl e)
  have c2 : (b == 0) = false := by simpa using fun e => z (.inr (.inl e))
  have c3 : (a == nt b) = false := by simpa using fun e => z (.inr (.inr e))
  have c4 : (a == 1) = false := by simpa using o1
  have c5 : (b == 1) = false := by simpa using o2
  have c6 : (a == b) = false := by simpa using o3
  clear r ha hb z o1 o2 o3 a0 a1 b0 b1 hx hy
  go_enter Try.func30, Try.ntmps30
  go_wp2_with fail
  go_at_call 45; refine (known_of HK.out _ HW.out hN (kints_two w a b) (by simp)).mono ?_; rintro e w' ⟨rfl, rfl⟩
  go_wp2_with fail
  go_at_call 47; refine (lits.Not_any b _).mono ?_; rintro e w' ⟨rfl, rfl⟩
  rw [HNT.out]
  go_wp2_with fail
  all_goals
    go_at_call 48; refine (HC.out _ _ (by have := HX.out; omega) (by have := HX.out; omega)).mono ?_; rintro e w1 h1
    have HE := Lib.hid h1
    obtain ⟨v1, rfl, -, -⟩ := h1
    go_wp2_with fail
    go_ret
    exact HE.out
theorem and_any (A g mb : Nat) (v : Value) (N : Net) (a b : Int) (w : World) (r : GRep A w g mb v N) (hN : N.length ≤ 1000000) :
    Calls Try.prog 30 #[.pointer (some ⟨g, 0, none⟩), .int .i64 a, .int .i64 b] w (GStep A g mb v (andF N a b).2 (andF N a b).1 w) := by
  cases ha : hasB N.length a with
  | false => exact and_bad A g mb v N a b w r hN (by rw [ha]; rfl)
  | true =>
    cases hb : hasB N.length b with
    | false => exact and_bad A g mb v N a b w r hN (by rw [ha, hb]; rfl)
    | true =>
      by_cases z1 : a = 0
      · exact and_z1 A g mb v N a b w r hN ha hb z1
      · by_cases z2 : b = 0
        · exact and_z2 A g mb v N a b w r hN ha hb z1 z2
        · by_cases z3 : a = nt b
          · exact and_z3 A g mb v N a b w r hN ha hb z1 z2 z3
          · have z : ¬ (a = 0 ∨ b = 0 ∨ a = nt b) := fun h => by rcases h with h | h | h; exact z1 h; exact z2 h; exact z3 h
            by_cases o1 : a = 1
            · exact and_o1 A g mb v N a b w r hN ha hb z o1
            · by_cases o2 : b = 1
              · exact and_o2 A g mb v N a b w r hN ha hb z o1 o2
              · by_cases o3 : a = b
                · exact and_o3 A g mb v N a b w r hN ha hb z o1 o2 o3
                · exact and_put A g mb v N a b w r hN ha hb z o1 o2 o3
theorem or_any (A g mb : Nat) (v : Value) (N : Net) (a b : Int) (w : World) (r : GRep A w g mb v N) (hN : N.length ≤ 990000) :
    Calls Try.prog 25 #[.pointer (some ⟨g, 0, none⟩), .int .i64 a, .int .i64 b] w (GStep A g mb v (orF N a b).2 (orF N a b).1 w) := by
  have HO := Lib.hid (or_by (N := N) a b hN)
  have HC := Lib.hid (and_any A g mb v N (litNot a) (litNot b) w r (by omega))
  clear r
  go_enter Try.func25, Try.ntmps25
  go_wp2_with fail
  go_at_call_of 47 (Value.int IntKind.i64 a); refine (lits.Not_any a _).mono ?_; rintro e w' ⟨rfl, rfl⟩
  go_wp2_with fail
  go_at_call 47; refine (lits.Not_any b _).mono ?_; rintro e w' ⟨rfl, rfl⟩
  go_wp2_with fail
  go_at_call 30; refine HC.out.mono ?_; rintro e w1 ⟨v1, rfl, h1, h2⟩
  have HE : Hid (GStep A g mb v (orF N a b).2 (orF N a b).1 w (.returned (.int .i64 (litNot (andF N (litNot a) (litNot b)).1))) w1) := Lib.hid (by rw [← HO.out]; exact ⟨v1, rfl, h1, h2⟩)
  clear h1 h2
  go_wp2_with fail
  go_at_call 47; refine (lits.Not_any _ _).mono ?_; rintro e w' ⟨rfl, rfl⟩
  go_wp2_with fail
  go_ret
  exact HE.out
theorem mux_any (A g mb : Nat) (v : Value) (N : Net) (c a b : Int) (w : World) (r : GRep A w g mb v N) (hN : N.length ≤ 900000) :
    Calls Try.prog 27 #[.pointer (some ⟨g, 0, none⟩), .int .i64 c, .int .i64 a, .int .i64 b] w (GStep A g mb v (muxF N c a b).2 (muxF N c a b).1 w) := by
  have HB : Hid (Below w.heap.size w (w.alloc (.cells #[.int .i64 c, .int .i64 a, .int .i64 b] 3))) := Lib.hid ((Below.refl _ _).alloc (Nat.le_refl _) _)
  have HW := Lib.hid (r.on HB.out)
  by_cases hh : hasB N.length c = true ∧ hasB N.length a = true ∧ hasB N.length b = true
  · have HK : Hid (allHas N.length [c, a, b] = true) := Lib.hid (by rw [has3, hh.1, hh.2.1, hh.2.2]; rfl)
    have HNT : Hid (litNot c = nt c) := Lib.hid (not_of_has (by omega) hh.1)
    have HM := Lib.hid (muxF_yes hh.1 hh.2.1 hh.2.2)
    have m1 := (and_len N c a).1
    have k1 := (and_len (andF N c a).2 (nt c) b).1
    have HL : Hid ((andF N c a).2.length ≤ 1000000 ∧ (andF (andF N c a).2 (nt c) b).2.length ≤ 990000) := Lib.hid ⟨by omega, by omega⟩
    obtain ⟨x, hx⟩ : ∃ x, x = andF N c a := ⟨_, rfl⟩
    rw [← hx] at HL HM
    have HX := Lib.hid hx
    obtain ⟨y, hy⟩ : ∃ y, y = andF x.2 (nt c) b := ⟨_, rfl⟩
    rw [← hy] at HL HM
    have HY := Lib.hid hy
    obtain ⟨x1, x2⟩ := x
    obtain ⟨y1, y2⟩ := y
    clear r hh m1 k1 hx hy
    go_enter Try.func27, Try.ntmps27
    go_wp2_with fail
    go_at_call 45; refine (known_of HK.out _ HW.out (by omega) (kints_three w c a b) (by simp)).mono ?_; rintro e w' ⟨rfl, rfl⟩
    go_wp2_with fail
    go_at_call 30; refine (and_any A g mb v N c a _ HW.out (by omega)).mono ?_; rintro e w1 ⟨v1, rfl, s1, s2⟩
    rw [← HX.out] at s1 ⊢
    have HS1 := Lib.hid s1
    have HM1 := Lib.hid ((moved_of_below (P := GOwn g mb v) HB.out).trans s2)
    clear s1 s2
    go_wp2_with fail
    go_at_call 47; refine (lits.Not_any c _).mono ?_; rintro e w' ⟨rfl, rfl⟩
    rw [HNT.out]
    go_wp2_with fail
    go_at_call 30; refine (and_any A g mb v1 x2 (nt c) b _ HS1.out HL.out.1).mono ?_; rintro e w2 ⟨v2, rfl, s1, s2⟩
    rw [← HY.out] at s1 ⊢
    have HS2 := Lib.hid s1
    have HM2 := Lib.hid (HM1.out.trans s2)
    clear s1 s2
    go_wp2_with fail
    go_at_call 25; refine (or_any A g mb v2 y2 x1 y1 _ HS2.out HL.out.2).mono ?_; rintro e w3 h3
    have HE := Lib.hid (gstep_trans HM2.out h3)
    obtain ⟨sv3, rfl, -, -⟩ := h3
    go_wp2_with fail
    go_ret
    rw [HM.out]
    exact HE.out
  · have HK : Hid (allHas N.length [c, a, b] = false) := Lib.hid (by
      rw [has3]
      cases h1 : hasB N.length c
      · rfl
      · cases h2 : hasB N.length a
        · rfl
        · cases h3 : hasB N.length b
          · rfl
          · exact absurd ⟨h1, h2, h3⟩ hh)
    have e : muxF N c a b = (-1, N) := muxF_no' hh
    have HE : Hid (GStep A g mb v (muxF N c a b).2 (muxF N c a b).1 w (.returned (.int .i64 (-1))) (w.alloc (.cells #[.int .i64 c, .int .i64 a, .int .i64 b] 3))) := Lib.hid (by rw [e]; exact gstep_same r rfl HB.out)
    clear r hh e
    go_enter Try.func27, Try.ntmps27
    go_wp2_with fail
    go_at_call 45; refine (known_of HK.out _ HW.out (by omega) (kints_three w c a b) (by simp)).mono ?_; rintro e w' ⟨rfl, rfl⟩
    go_wp2_with fail
    go_ret
    exact HE.out
theorem xor_any (A g mb : Nat) (v : Value) (N : Net) (a b : Int) (w : World) (r : GRep A w g mb v N) (hN : N.length ≤ 900000) :
    Calls Try.prog 26 #[.pointer (some ⟨g, 0, none⟩), .int .i64 a, .int .i64 b] w (GStep A g mb v (xorF N a b).2 (xorF N a b).1 w) := by
  have HC := Lib.hid (mux_any A g mb v N a (litNot b) b w r hN)
  rw [xor_by a b hN] at HC
  clear r
  go_enter Try.func26, Try.ntmps26
  go_wp2_with fail
  go_at_call 47; refine (lits.Not_any b _).mono ?_; rintro e w' ⟨rfl, rfl⟩
  go_wp2_with fail
  go_at_call 27; refine HC.out.mono ?_; rintro e w1 h1
  have HE := Lib.hid h1
  obtain ⟨v1, rfl, -, -⟩ := h1
  go_wp2_with fail
  go_ret
  exact HE.out
theorem input_any (A g mb : Nat) (v : Value) (N : Net) (w : World) (r : GRep A w g mb v N) (hN : N.length ≤ 1000000) :
    Calls Try.prog 20 #[.pointer (some ⟨g, 0, none⟩)] w (GStep A g mb v (inF N).2 (inF N).1 w) := by
  obtain ⟨D, q0, s, hq, gk⟩ := r
  have HC := Lib.hid (put_any A g mb v N D q0 none w s hN)
  have HQ := Lib.hid hq
  have HG := Lib.hid gk
  clear s hq gk
  go_enter Try.func20, Try.ntmps20
  go_wp2_with fail
  go_at_call 37; refine HC.out.mono ?_; rintro e w1 ⟨rfl, v1, s1, s2⟩
  have HE : Hid (GStep A g mb v (inF N).2 (inF N).1 w (.returned (.int .i64 (2 * ((N.length : Int) + 1)))) w1) := Lib.hid ⟨v1, rfl, ⟨D, q0, s1, by have := HQ.out; show q0 ≤ (N ++ [none]).length; rw [List.length_append]; omega, gok_input HG.out⟩, s2⟩
  clear s1 s2
  go_wp2_with fail
  go_ret
  exact HE.out
theorem all_any (A g mb : Nat) (v u : Value) (N : Net) (zs : List Int) (w : World) (r : GRep A w g mb v N) (hz : KInts (GOwn g mb v) w u zs) (hN : N.length ≤ 900000) (hn : zs.length ≤ 1000) :
    Calls Try.prog 31 #[.pointer (some ⟨g, 0, none⟩), u] w (GStep A g mb v (allF N zs).2 (allF N zs).1 w) := by
  have HS := Lib.hid r
  have HK := Lib.hid hz
  obtain ⟨a, cap, rfl, l1, l2, -⟩ := hz
  unfold maxLen at l2
  obtain ⟨n, hnn⟩ : ∃ n, n = zs.length := ⟨_, rfl⟩
  rw [← hnn] at l1 hn HK ⊢
  have HN := Lib.hid hnn
  clear r hnn
  cases hh : allHas N.length zs with
  | false =>
    have HH := Lib.hid hh
    have HE : Hid (GStep A g mb v (allF N zs).2 (allF N zs).1 w (.returned (.int .i64 (-1))) w) := Lib.hid (by
      have e : allF N zs = (-1, N) := by unfold allF; rw [hh]; rfl
      rw [e]; exact gstep_same HS.out rfl (Below.refl _ _))
    clear hh
    go_enter Try.func31, Try.ntmps31
    go_wp2_with fail
    go_at_call 45; refine (known_of HH.out _ HS.out (by omega) HK.out (by rw [← HN.out]; exact hn)).mono ?_; rintro e w' ⟨rfl, rfl⟩
    go_wp2_with fail
    go_ret
    exact HE.out
  | true =>
    have HH := Lib.hid hh
    have HA : Hid (allF N zs = allGo (1, N) zs) := Lib.hid (by unfold allF; rw [hh]; rfl)
    clear hh
    go_enter Try.func31, Try.ntmps31
    go_wp2_with fail
    go_at_call 45; refine (known_of HH.out _ HS.out (by omega) HK.out (by rw [← HN.out]; exact hn)).mono ?_; rintro e w' ⟨rfl, rfl⟩
    go_wp2_with fail
    go_loopw [5, 14] (fun o i wr => ∃ (k : Nat) (r : Int) (M : Net) (v' : Value), k ≤ n ∧ i = .int .i64 k ∧ o = .int .i64 r ∧ M.length ≤ N.length + k ∧ Hid (allGo (1, N) (zs.take k) = (r, M)) ∧ Hid (GRep A wr g mb v' M ∧ Moved (GOwn g mb v) (GOwn g mb v') w wr)) (fun _ i _ => n - (intOf i).toNat)
    case atStart => exact ⟨0, 1, N, v, Nat.zero_le _, rfl, rfl, Nat.le_refl _, Lib.hid rfl, Lib.hid ⟨HS.out, Moved.refl _ _⟩⟩
    case round =>
      obtain ⟨k, r, M, v', hk, rfl, rfl, hM, HG, HW⟩ := hrel
      obtain ⟨wo, rfl⟩ : ∃ wo : World, wo = wr := ⟨_, rfl⟩
      by_cases hlt : k < n
      · obtain ⟨a', cap', hv, -, -, hcs⟩ := HK.out.move HW.out.2
        obtain ⟨b, off, ha, hb, -, hcs⟩ := hcs (by rw [← HN.out]; omega)
        have e1 := hcs k (by rw [← HN.out]; exact hlt)
        obtain ⟨rfl, -, rfl⟩ : a = a' ∧ n = zs.length ∧ cap = cap' := by simpa using hv
        subst ha
        obtain ⟨z, hz⟩ : ∃ z, z = zs.getD k 0 := ⟨_, rfl⟩
        rw [← hz] at e1
        have HZ := Lib.hid hz
        have d1 : (k : Int) < (n : Int) := by omega
        have d2 : 0 ≤ (k : Int) := by omega
        have hl := and_len M r z
        have HG2 : Hid (allGo (1, N) (zs.take (k + 1)) = ((andF M r z).1, (andF M r z).2)) := Lib.hid (by rw [allGo_step (by rw [← HN.out]; exact hlt), HG.out, ← HZ.out])
        have hM2 : (andF M r z).2.length ≤ N.length + (k + 1) := by omega
        have HMM := Lib.hid hM2
        clear hcs hz hl hM2 hv
        go_wp2_with fail
        go_at_call 30; refine (and_any A g mb v' M r z _ HW.out.1 (by omega)).mono ?_; rintro e w1 ⟨v2, rfl, s1, s2⟩
        have HX : Hid (GRep A w1 g mb v2 (andF M r z).2 ∧ Moved (GOwn g mb v) (GOwn g mb v2) w w1) := Lib.hid ⟨s1, HW.out.2.trans s2⟩
        clear s1 s2
        go_wp2_with fail
        go_roundw
        case rel => exact ⟨k + 1, (andF M r z).1, (andF M r z).2, v2, by omega, by go_num, rfl, HMM.out, HG2, HX⟩
        case measure => simp [intOf]; omega
      · obtain rfl : n = k := by omega
        have HR : Hid (GStep A g mb v (allF N zs).2 (allF N zs).1 w (.returned (.int .i64 r)) wo) := Lib.hid (by
          have e := HG.out
          rw [HN.out, List.take_length] at e
          rw [HA.out, e]
          exact ⟨v', rfl, HW.out.1, HW.out.2⟩)
        clear hlt hk
        go_wp2_with fail
        go_ret
        exact HR.out
end Go.Proofs.Ytfdihlicmmcjjaa.aig
