/- A nil store of the project's; the project's store has what the laws' walks ask for. -/
import Derived.Test.YtfdihlicmmcjjaaY7
import Derived.Test.YtfdihlicmmcjjaaBd
namespace Go.Proofs.Ytfdihlicmmcjjaa.aig
open Go.RowKit Go.Maps Go.WideMaps
open Go.Proofs.Ytfdihlicmmcjjaa.mem Go.Proofs.Ytfdihlicmmcjjaa.agf Go.Proofs.Ytfdihlicmmcjjaa.fns

theorem known_nil (u : Value) (w : World) : Calls Try.prog 45 #[.pointer none, u] w fun e w' => e = .returned (.bool false) ∧ w = w' := by
  go_enter Try.func45, Try.ntmps45
  go_wp2_with fail
  go_ret
  exact ⟨rfl, rfl⟩
theorem put_nil (a b : Int) (w : World) : Calls Try.prog 37 #[.pointer none, .agg #[.int .i64 a, .int .i64 b]] w fun e w' => e = .returned (.int .i64 (-1)) ∧ Below w.heap.size w w' := by
  have HB : Hid (Below w.heap.size w (w.alloc (.cells #[.int .i64 a, .int .i64 b] 54))) := Lib.hid ((Below.refl _ _).alloc (Nat.le_refl _) _)
  go_enter Try.func37, Try.ntmps37
  go_wp2_with fail
  go_ret
  exact ⟨rfl, HB.out⟩
theorem input_nil (w : World) : Calls Try.prog 20 #[.pointer none] w fun e w' => e = .returned (.int .i64 (-1)) ∧ Below w.heap.size w w' := by
  go_enter Try.func20, Try.ntmps20
  go_wp2_with fail
  go_at_call 37; refine (put_nil _ _ _).mono ?_; rintro e w1 ⟨rfl, hb⟩
  have HB := Lib.hid hb
  clear hb
  go_wp2_with fail
  go_ret
  exact ⟨rfl, HB.out⟩
theorem and_nil (a b : Int) (w : World) : Calls Try.prog 30 #[.pointer none, .int .i64 a, .int .i64 b] w fun e w' => e = .returned (.int .i64 (-1)) ∧ Below w.heap.size w w' := by
  have HB : Hid (Below w.heap.size w (w.alloc (.cells #[.int .i64 a, .int .i64 b] 3))) := Lib.hid ((Below.refl _ _).alloc (Nat.le_refl _) _)
  go_enter Try.func30, Try.ntmps30
  go_wp2_with fail
  go_at_call 45; refine (known_nil _ _).mono ?_; rintro e w' ⟨rfl, rfl⟩
  go_wp2_with fail
  go_ret
  exact ⟨rfl, HB.out⟩
theorem or_nil (a b : Int) (w : World) : Calls Try.prog 25 #[.pointer none, .int .i64 a, .int .i64 b] w fun e w' => e = .returned (.int .i64 (-1)) ∧ Below w.heap.size w w' := by
  go_enter Try.func25, Try.ntmps25
  go_wp2_with fail
  go_at_call_of 47 (Value.int IntKind.i64 a); refine (lits.Not_any a _).mono ?_; rintro e w' ⟨rfl, rfl⟩
  go_wp2_with fail
  go_at_call 47; refine (lits.Not_any b _).mono ?_; rintro e w' ⟨rfl, rfl⟩
  go_wp2_with fail
  go_at_call 30; refine (and_nil _ _ _).mono ?_; rintro e w1 ⟨rfl, hb⟩
  have HB := Lib.hid hb
  clear hb
  go_wp2_with fail
  go_at_call 47; refine (lits.Not_any _ _).mono ?_; rintro e w' ⟨rfl, rfl⟩
  go_wp2_with fail
  go_ret
  exact ⟨rfl, HB.out⟩
theorem mux_nil (c a b : Int) (w : World) : Calls Try.prog 27 #[.pointer none, .int .i64 c, .int .i64 a, .int .i64 b] w fun e w' => e = .returned (.int .i64 (-1)) ∧ Below w.heap.size w w' := by
  have HB : Hid (Below w.heap.size w (w.alloc (.cells #[.int .i64 c, .int .i64 a, .int .i64 b] 3))) := Lib.hid ((Below.refl _ _).alloc (Nat.le_refl _) _)
  go_enter Try.func27, Try.ntmps27
  go_wp2_with fail
  go_at_call 45; refine (known_nil _ _).mono ?_; rintro e w' ⟨rfl, rfl⟩
  go_wp2_with fail
  go_ret
  exact ⟨rfl, HB.out⟩
theorem xor_nil (a b : Int) (w : World) : Calls Try.prog 26 #[.pointer none, .int .i64 a, .int .i64 b] w fun e w' => e = .returned (.int .i64 (-1)) ∧ Below w.heap.size w w' := by
  go_enter Try.func26, Try.ntmps26
  go_wp2_with fail
  go_at_call 47; refine (lits.Not_any b _).mono ?_; rintro e w' ⟨rfl, rfl⟩
  go_wp2_with fail
  go_at_call 27; refine (mux_nil _ _ _ _).mono ?_; rintro e w1 ⟨rfl, hb⟩
  have HB := Lib.hid hb
  clear hb
  go_wp2_with fail
  go_ret
  exact ⟨rfl, HB.out⟩
theorem all_nil (u : Value) (w : World) : Calls Try.prog 31 #[.pointer none, u] w fun e w' => e = .returned (.int .i64 (-1)) ∧ w = w' := by
  go_enter Try.func31, Try.ntmps31
  go_wp2_with fail
  go_at_call 45; refine (known_nil _ _).mono ?_; rintro e w' ⟨rfl, rfl⟩
  go_wp2_with fail
  go_ret
  exact ⟨rfl, rfl⟩
theorem copy_nil (nv u : Value) (w : World) : Calls Try.prog 24 #[.pointer none, nv, u] w fun e w' => e = .returned (.slice none 0 0) ∧ w = w' := by
  go_enter Try.func24, Try.ntmps24
  go_wp2_with fail
  go_at_call 45; refine (known_nil _ _).mono ?_; rintro e w' ⟨rfl, rfl⟩
  go_wp2_with fail
  go_ret
  exact ⟨rfl, rfl⟩
theorem net_nil (w : World) : Calls Try.prog 23 #[.pointer none] w fun e w' => e = .returned (.slice none 0 0) ∧ w = w' := by
  go_enter Try.func23, Try.ntmps23
  go_wp2_with fail
  go_ret
  exact ⟨rfl, rfl⟩
theorem len_nil (w : World) : Calls Try.prog 22 #[.pointer none] w fun e w' => e = .returned (.int .i64 0) ∧ w = w' := by
  go_enter Try.func22, Try.ntmps22
  go_wp2_with fail
  go_ret
  exact ⟨rfl, rfl⟩
theorem clone_nil (w : World) : Calls Try.prog 19 #[.pointer none] w fun e w' => e = .returned (.pointer none) ∧ w = w' := by
  go_enter Try.func19, Try.ntmps19
  go_wp2_with fail
  go_ret
  exact ⟨rfl, rfl⟩
theorem nil_ok : NilOk where
  input := input_nil
  and_ := and_nil
  or_ := fun a b w _ _ => or_nil a b w
  xor := fun a b w _ _ => xor_nil a b w
  mux := fun a b c w _ _ _ => mux_nil a b c w
  all := fun v _ w _ _ => (all_nil v w).mono fun _ _ h => ⟨h.1, h.2 ▸ Below.refl _ _⟩
  copy := fun nv v _ _ w _ _ _ _ _ => (copy_nil nv v w).mono fun _ _ h => ⟨none, 0, h.1, h.2 ▸ Below.refl _ _⟩
  net := fun w => (net_nil w).mono fun _ _ h => ⟨none, 0, h.1, h.2 ▸ Below.refl _ _⟩
  len := fun w => (len_nil w).mono fun _ _ h => ⟨h.1, h.2 ▸ Below.refl _ _⟩
  clone := fun w => (clone_nil w).mono fun _ _ h => ⟨h.1, h.2 ▸ Below.refl _ _⟩

/-- the project's store has what the laws' walks ask for -/
def proj : Proj where
  σ := Nat × Value
  own := fun g s k => GOwn g s.1 s.2 k
  rep := fun A w g s N => GRep A w g s.1 s.2 N
  ge := fun r => r.ge
  keep := fun r o hp => by
    obtain ⟨D, q0, s, h1, h2⟩ := r
    exact ⟨D, q0, s.only o hp, h1, h2⟩
  new := fun A w hA => (new_any A w hA).mono fun e w' ⟨g, mb, v, h1, h2, h3, h4⟩ => ⟨g, (mb, v), h1, h2, h3, h4⟩
  input := fun A g s N w r hN => (input_any A g s.1 s.2 N w r (by omega)).mono fun e w' ⟨v', h1, h2, h3⟩ => ⟨(s.1, v'), h1, h2, h3⟩
  and_ := fun A g s N a b w r hN _ _ => (and_any A g s.1 s.2 N a b w r (by omega)).mono fun e w' ⟨v', h1, h2, h3⟩ => ⟨(s.1, v'), h1, h2, h3⟩
  or_ := fun A g s N a b w r hN _ _ => (or_any A g s.1 s.2 N a b w r (by omega)).mono fun e w' ⟨v', h1, h2, h3⟩ => ⟨(s.1, v'), h1, h2, h3⟩
  xor := fun A g s N a b w r hN _ _ => (xor_any A g s.1 s.2 N a b w r hN).mono fun e w' ⟨v', h1, h2, h3⟩ => ⟨(s.1, v'), h1, h2, h3⟩
  mux := fun A g s N c a b w r hN _ _ _ => (mux_any A g s.1 s.2 N c a b w r hN).mono fun e w' ⟨v', h1, h2, h3⟩ => ⟨(s.1, v'), h1, h2, h3⟩
  all := fun A g s N v zs w r hz hN hn => (all_any A g s.1 s.2 v N zs w r hz hN hn).mono fun e w' ⟨v', h1, h2, h3⟩ => ⟨(s.1, v'), h1, h2, h3⟩
  copy := fun A g s N nv v ns zs w r hn hg hz hN hns hzs => (copy_any A g s.1 s.2 nv v N ns zs w r hn hg hz hN hns hzs).mono fun e w' ⟨v', u, h1, h2, h3, h4⟩ => ⟨(s.1, v'), u, h1, h2, h3, h4⟩
  net := fun A g s N w r hN => (net_any A g s.1 s.2 N w r (by omega)).mono fun e w' ⟨u, h1, h2, h3⟩ =>
    ⟨u, N.map conc, h1, knds_row (E := w.heap.size) (by rw [List.length_map]; exact h2) (fun _ h => h), by rw [List.length_map], fun i hi => .inr rfl, h3⟩
  len := fun A g s N w r => len_any A g s.1 s.2 N w r
  clone := fun A g s N w r hN => (clone_any A g s.1 s.2 N w r (by omega)).mono fun e w' ⟨g', mb, v, h1, h2, h3, h4⟩ => ⟨g', (mb, v), h1, h2, h3, h4⟩
end Go.Proofs.Ytfdihlicmmcjjaa.aig
