/- The project's store of gates in memory: a block of two cells (the nodes, the map), the nodes' row, the map. -/
import Derived.Test.YtfdihlicmmcjjaaPm
import Derived.Test.YtfdihlicmmcjjaaA6
import Derived.Test.YtfdihlicmmcjjaaV
namespace Go.Proofs.Ytfdihlicmmcjjaa.aig
open Go.RowKit Go.Maps Go.WideMaps
open Go.Proofs.Ytfdihlicmmcjjaa.mem Go.Proofs.Ytfdihlicmmcjjaa.agf Go.Proofs.Ytfdihlicmmcjjaa.fns

/-- the store at g: its map at mb, its nodes' row v -/
structure Gs (A : Nat) (w : World) (g mb : Nat) (v : Value) (N : Net) (D : DataW Unit) (q0 : Nat) : Prop where
  blk : ∃ t, w.heap[g]? = some (.cells #[v, .map (some mb)] t (0, 0))
  row : w.ownsRow A 54 2 v N.length (nodeCells (N.map conc))
  map : w.ownsMap Try.prog 54 (plainElem Try.prog 3) mb q0 D
  ap : v.ownBlock ≠ some g ∧ v.ownBlock ≠ some mb
  lay : A ≤ g ∧ A ≤ mb ∧ g ≠ mb
/-- its blocks -/
def GOwn (g mb : Nat) (v : Value) (k : Nat) : Prop := k = g ∨ k = mb ∨ v.ownBlock = some k
section
variable {A : Nat} {w w' : World} {g mb : Nat} {v : Value} {N : Net} {D : DataW Unit} {q0 : Nat}
theorem Gs.lt (s : Gs A w g mb v N D q0) : g < w.heap.size ∧ mb < w.heap.size := by
  obtain ⟨t, h⟩ := s.blk
  exact ⟨(Array.getElem?_eq_some_iff.1 h).1, s.map.lt⟩
theorem Gs.low (s : Gs A w g mb v N D q0) : A ≤ w.heap.size := by have := s.lt; have := s.lay; omega
theorem Gs.cells (s : Gs A w g mb v N D q0) : (w.cell? ⟨g, 0, none⟩ = some v ∧ w.frozen? ⟨g, 0, none⟩ = false) ∧ w.cell? ⟨g, 1, none⟩ = some (.map (some mb)) ∧ w.frozen? ⟨g, 1, none⟩ = false := by
  obtain ⟨t, h⟩ := s.blk
  exact ⟨⟨Joins.cell_of_block h 0, Joins.unfrozen_of_block h 0⟩, Joins.cell_of_block h 1, Joins.unfrozen_of_block h 1⟩
theorem Gs.ge (s : Gs A w g mb v N D q0) : ∀ k, GOwn g mb v k → A ≤ k ∧ k < w.heap.size := by
  intro k hk
  have l := s.lay; have l2 := s.lt
  rcases hk with rfl | rfl | e
  · omega
  · omega
  · exact s.row.lt k e
theorem Gs.only {P : Nat → Prop} (s : Gs A w g mb v N D q0) (o : Only P w w') (hp : ∀ k, GOwn g mb v k → ¬ P k) : Gs A w' g mb v N D q0 := by
  have l := s.lt
  obtain ⟨t, e⟩ := s.blk
  refine ⟨⟨t, (o.block g (by omega) (hp g (.inl rfl))).trans e⟩, ?_, ?_, s.ap, s.lay⟩
  · obtain ⟨e1, e2⟩ := s.row
    refine ⟨e1, ?_⟩
    rcases e2 with e2 | ⟨r, cap, cur, rfl, h1, h2, h3⟩
    · exact .inl e2
    · exact .inr ⟨r, cap, cur, rfl, h1, (o.block r (Array.getElem?_eq_some_iff.1 h2).1 (hp r (.inr (.inr rfl)))).trans h2, h3⟩
  · obtain ⟨es, clock, hb, F, hs, hD⟩ := s.map
    exact ⟨es, clock, (o.block mb (by omega) (hp mb (.inr (.inl rfl)))).trans hb, F, hs, hD⟩
theorem Gs.on (s : Gs A w g mb v N D q0) (hb : Below w.heap.size w w') : Gs A w' g mb v N D q0 :=
  s.only (P := fun _ => False) ⟨hb.os, hb.tape, hb.output, hb.size, fun k hk _ => hb.block k hk⟩ (fun _ _ e => e)
theorem Gs.form (s : Gs A w g mb v N D q0) : ∃ a c, v = .slice a N.length c := by
  rcases s.row.2 with ⟨e, e2⟩ | ⟨t, c, cur, e, -⟩
  · exact ⟨none, 0, by rw [e, e2]⟩
  · exact ⟨_, _, e⟩
/-- behind an append to its nodes, stored back; the map is still as it was -/
theorem Gs.put {w1 w2 : World} {v' : Value} {x : Nd} (s : Gs A w g mb v N D q0) (hb : Below w.heap.size w w1) (hown : w2.ownsRow A 54 2 v' (N.length + 1) (nodeCells (N.map conc) ++ [.int .i64 (conc x).1, .int .i64 (conc x).2])) (hg : w1.grownBy w2 v.ownBlock)
    (hat : ∀ k, v'.ownBlock = some k → v.ownBlock = some k ∨ w.heap.size ≤ k) :
    Gs A (w2.setCell ⟨g, 0, none⟩ v') g mb v' (N ++ [x]) D q0 ∧ Moved (GOwn g mb v) (GOwn g mb v') w (w2.setCell ⟨g, 0, none⟩ v') := by
  have l := s.lay
  have l2 := s.lt
  have s1 := s.on hb
  have hsz := hb.size
  obtain ⟨a1, a2⟩ := s.ap
  have n1 : v'.ownBlock ≠ some g := fun e => by rcases hat g e with h | h; exact a1 h; omega
  have n2 : v'.ownBlock ≠ some mb := fun e => by rcases hat mb e with h | h; exact a2 h; omega
  obtain ⟨t, e⟩ := s1.blk
  have e2 : w2.heap[g]? = some (.cells #[v, .map (some mb)] t (0, 0)) := (hg.block g (by omega) (fun e => a1 e.symm)).trans e
  have hset := grownBy_set w2 g 0 v'
  have hs2 := hg.size
  refine ⟨⟨⟨t, by simpa using Joins.block_setCell (i := 0) e2 v'⟩, ?_, ?_, ⟨n1, n2⟩, l⟩, ?_, fun k hk => ?_⟩
  · have h3 := hown.kept hset (.inr n1)
    rw [nodeCells_snoc] at h3
    rw [List.length_append, List.length_singleton, List.map_append]
    exact h3
  · exact (s1.map.kept hg (fun e => a2 e.symm)).kept hset (by simp; omega)
  · refine ⟨?_, ?_, ?_, by have := hset.size; omega, fun k hk hp => ?_⟩
    · exact (hset.os.trans hg.os).trans hb.os
    · exact (hset.tape.trans hg.tape).trans hb.tape
    · exact (hset.output.trans hg.output).trans hb.output
    · have n1 : k ≠ g := fun e => hp (.inl e)
      have n2 : v.ownBlock ≠ some k := fun e => hp (.inr (.inr e))
      exact ((hset.block k (by omega) (by simp; omega)).trans (hg.block k (by omega) (fun e => n2 e.symm))).trans (hb.block k hk)
  · rcases hk with rfl | rfl | e
    · exact .inl (.inl rfl)
    · exact .inl (.inr (.inl rfl))
    · rcases hat k e with h | h
      · exact .inl (.inr (.inr h))
      · exact .inr h
/-- behind a store into the map -/
theorem Gs.mapSet {D' : DataW Unit} {q1 : Nat} (s : Gs A w g mb v N D q0) (hm : w'.ownsMap Try.prog 54 (plainElem Try.prog 3) mb q1 D') (hg : w.grownBy w' (some mb)) :
    Gs A w' g mb v N D' q1 ∧ Moved (GOwn g mb v) (GOwn g mb v) w w' := by
  have l := s.lay
  have l2 := s.lt
  obtain ⟨t, e⟩ := s.blk
  refine ⟨⟨⟨t, (hg.block g (by omega) (by simp; omega)).trans e⟩, s.row.kept hg (.inr s.ap.2), hm, s.ap, l⟩,
    ⟨hg.os, hg.tape, hg.output, hg.size, fun k hk hp => hg.block k hk (fun e => hp (.inr (.inl (by simpa using e))))⟩, fun k hk => .inl hk⟩
end

/-! ## Literals by the project's words -/
theorem good_of_has {m : Nat} {l : Int} (hm : m ≤ 1000000) (h : hasB m l = true) : goodB l = true := by
  rw [has_iff] at h; exact good_yes h.1 (by omega)
theorem not_of_has {m : Nat} {l : Int} (hm : m ≤ 1000000) (h : hasB m l = true) : litNot l = nt l := by
  have hg := good_of_has hm h
  rw [has_iff] at h
  unfold nt
  rw [if_neg (by omega)]
  by_cases h2 : l % 2 = 1
  · rw [if_pos h2, not_odd hg h2]
  · rw [if_neg h2, not_even hg (by omega)]
theorem has_not {m : Nat} (l : Int) (hm : m ≤ 1000000) : hasB m (litNot l) = hasB m l := by
  cases h : hasB m l with
  | true => rw [not_of_has hm h, nt_has, h]
  | false =>
    cases hg : goodB l with
    | false => rw [not_no hg, has_no]; omega
    | true =>
      obtain ⟨h0, h1⟩ := good_iff.1 hg
      rw [has_no] at h ⊢
      by_cases h2 : l % 2 = 1
      · rw [not_odd hg h2]; omega
      · rw [not_even hg (by omega)]; omega
theorem nt_neg1 : nt (-1) = -1 := rfl
theorem not_neg1 : litNot (-1) = -1 := rfl
/-- Or by the project's Not -/
theorem or_by {N : Net} (a b : Int) (hN : N.length ≤ 990000) : (litNot (andF N (litNot a) (litNot b)).1, (andF N (litNot a) (litNot b)).2) = orF N a b := by
  unfold orF
  simp only
  by_cases h : hasB N.length a = true ∧ hasB N.length b = true
  · rw [not_of_has (by omega) h.1, not_of_has (by omega) h.2]
    have ha : hasB N.length (nt a) = true := by rw [nt_has]; exact h.1
    have hb : hasB N.length (nt b) = true := by rw [nt_has]; exact h.2
    have e := (and_ext ha hb).2
    have hl := (and_len N (nt a) (nt b)).1
    rw [not_of_has (by omega) e]
  · have h1 : hasB N.length a = false ∨ hasB N.length b = false := by
      cases ha : hasB N.length a with
      | false => exact .inl rfl
      | true => cases hb : hasB N.length b with
        | false => exact .inr rfl
        | true => exact absurd ⟨ha, hb⟩ h
    rw [andF_no (by rw [has_not _ (by omega), has_not _ (by omega)]; exact h1), andF_no (by rw [nt_has, nt_has]; exact h1)]
    rfl
theorem muxF_no' {N : Net} {c a b : Int} (h : ¬ (hasB N.length c = true ∧ hasB N.length a = true ∧ hasB N.length b = true)) : muxF N c a b = (-1, N) := by
  unfold muxF
  rw [if_neg (by simpa [and_assoc] using h)]
/-- Xor by the project's Not -/
theorem xor_by {N : Net} (a b : Int) (hN : N.length ≤ 900000) : muxF N a (litNot b) b = xorF N a b := by
  unfold xorF
  by_cases h : hasB N.length b = true
  · rw [not_of_has (by omega) h]
  · rw [muxF_no' (fun e => h e.2.2), muxF_no' (fun e => h e.2.2)]
/-- whether l is a literal of a variable that is less than v -/
def underB (l v : Int) : Bool := goodB l && decide (litVar l < v)
theorem under_has {m : Nat} (l : Int) (hm : m ≤ 1000000) : underB l ((m : Int) + 1) = hasB m l := by
  unfold underB
  cases hg : goodB l with
  | false =>
    rw [Bool.false_and]
    refine (has_no.2 fun e => ?_).symm
    have := good_yes e.1 (by omega)
    rw [this] at hg; cases hg
  | true =>
    obtain ⟨h0, h1⟩ := good_iff.1 hg
    rw [var_yes hg, Bool.true_and, Bool.eq_iff_iff, has_iff, decide_eq_true_iff]
    omega
theorem under_any (l v : Int) (w : World) : Calls Try.prog 33 #[.int .i64 l, .int .i64 v] w fun e w' => e = .returned (.bool (underB l v)) ∧ w = w' := by
  cases hg : goodB l with
  | false =>
    have HR : Hid (underB l v = false) := Lib.hid (by unfold underB; rw [hg]; rfl)
    have HG := Lib.hid hg
    clear hg
    go_enter Try.func33, Try.ntmps33
    go_wp2_with fail
    go_at_call 49; refine (lits.Good_no HG.out _).mono ?_; rintro e w' ⟨rfl, rfl⟩
    go_wp2_with fail
    go_ret
    exact ⟨retB HR.out.symm, rfl⟩
  | true =>
    have HR : Hid (underB l v = decide (litVar l < v)) := Lib.hid (by unfold underB; rw [hg]; rfl)
    have HG := Lib.hid hg
    clear hg
    obtain ⟨b1, b2⟩ := var_bd l
    go_enter Try.func33, Try.ntmps33
    go_wp2_with fail
    go_at_call 49; refine (lits.Good_yes HG.out _).mono ?_; rintro e w' ⟨rfl, rfl⟩
    go_wp2_with fail
    go_at_call 34; refine (lits.Var_any _ _).mono ?_; rintro e w' ⟨rfl, rfl⟩
    go_wp2_with fail
    go_ret
    exact ⟨retB HR.out.symm, rfl⟩
theorem under_of {l v : Int} {r : Bool} (h : underB l v = r) (w : World) : Calls Try.prog 33 #[.int .i64 l, .int .i64 v] w fun e w' => e = .returned (.bool r) ∧ w = w' := by
  have := under_any l v w; rw [h] at this; exact this
/-- whether a node is an input -/
theorem isInput_of {a : Int} (b : Int) {r : Bool} (h : decide (a < 0) = r) (w : World) : Calls Try.prog 32 #[.agg #[.int .i64 a, .int .i64 b]] w fun e w' => e = .returned (.bool r) ∧ Below w.heap.size w w' := by
  have HB : Hid (Below w.heap.size w (w.alloc (.cells #[.int .i64 a, .int .i64 b] 54))) := Lib.hid ((Below.refl _ _).alloc (Nat.le_refl _) _)
  go_enter Try.func32, Try.ntmps32
  go_wp2_with fail
  go_ret
  exact ⟨rfl, HB.out⟩
theorem known_any (A g mb : Nat) (v : Value) (N : Net) (D : DataW Unit) (q0 : Nat) (P : Nat → Prop) (u : Value) (zs : List Int) (w : World) (s : Gs A w g mb v N D q0) (hN : N.length ≤ 1000000) (hz : KInts P w u zs) (hn : zs.length ≤ 1000) :
    Calls Try.prog 45 #[.pointer (some ⟨g, 0, none⟩), u] w fun e w' => e = .returned (.bool (allHas N.length zs)) ∧ w = w' := by
  obtain ⟨⟨c0, -⟩, -⟩ := s.cells
  obtain ⟨va, vc, rfl⟩ := s.form
  obtain ⟨a, cap, rfl, l1, l2, hcell⟩ := hz
  unfold maxLen at l2
  obtain ⟨n, hnn⟩ : ∃ n, n = zs.length := ⟨_, rfl⟩
  rw [← hnn] at l1 hn hcell ⊢
  have HN := Lib.hid hnn
  have HC := Lib.hid hcell
  obtain ⟨m, hm⟩ : ∃ m, m = N.length := ⟨_, rfl⟩
  rw [← hm] at c0 hN ⊢
  clear s hcell hnn hm
  go_enter Try.func45, Try.ntmps45
  go_wp2_with fail
  go_loop [11] (fun i => ∃ k : Nat, k ≤ n ∧ i = .int .i64 k ∧ Hid (∀ j, j < k → hasB m (zs.getD j 0) = true)) (fun i => n - (intOf i).toNat)
  case atStart => exact ⟨0, Nat.zero_le _, rfl, Lib.hid (fun j hj => by omega)⟩
  case round =>
    obtain ⟨k, hk, rfl, HJ⟩ := hrel
    by_cases hlt : k < n
    · obtain ⟨b, off, rfl, hb, -, hcs⟩ := HC.out (by omega)
      have e1 := hcs k hlt
      obtain ⟨z, hz⟩ : ∃ z, z = zs.getD k 0 := ⟨_, rfl⟩
      rw [← hz] at e1
      have HZ := Lib.hid hz
      have d1 : (k : Int) < (n : Int) := by omega
      have d2 : 0 ≤ (k : Int) := by omega
      clear hcs hz
      cases hh : hasB m z
      · have HR : Hid (allHas m zs = false) := Lib.hid (allHas_no (k := k) (by rw [← HN.out]; exact hlt) (by rw [← HZ.out]; exact hh))
        have HU : Hid (underB z ((m : Int) + 1) = false) := Lib.hid ((under_has z hN).trans hh)
        clear hh
        go_wp2_with fail
        go_at_call 33; refine (under_of HU.out _).mono ?_; rintro e w' ⟨rfl, rfl⟩
        go_wp2_with fail
        go_ret
        exact ⟨retB HR.out.symm, rfl⟩
      · have HJ2 : Hid (∀ j, j < k + 1 → hasB m (zs.getD j 0) = true) := Lib.hid (fun j hj => by
          by_cases e : j = k
          · rw [e, ← HZ.out]; exact hh
          · exact HJ.out j (by omega))
        have HU : Hid (underB z ((m : Int) + 1) = true) := Lib.hid ((under_has z hN).trans hh)
        clear hh
        go_wp2_with fail
        go_at_call 33; refine (under_of HU.out _).mono ?_; rintro e w' ⟨rfl, rfl⟩
        go_wp2_with fail
        go_round
        case rel => exact ⟨k + 1, by omega, by go_num, HJ2⟩
        case measure => simp [intOf]; omega
    · obtain rfl : n = k := by omega
      have HR : Hid (allHas m zs = true) := Lib.hid (allHas_yes (fun j hj => HJ.out j (by rw [HN.out]; exact hj)))
      clear hlt hk
      go_wp2_with fail
      go_ret
      exact ⟨retB HR.out.symm, rfl⟩
end Go.Proofs.Ytfdihlicmmcjjaa.aig
