import Derived.Test.YtbpjflghkkkenaaMg16
import Derived.Test.YtbpjflghkkkenaaMg11
import Derived.Lib.SliceRun
import Derived.Test.YtbpjflghkkkenaaMg14
import Derived.Below
import Derived.Test.YtbpjflghkkkenaaMg12
import Derived.Test.YtbpjflghkkkenaaMg23
/- Clone of a list, of four kinds. (Printed by mkZw.py.) -/
namespace Go.Proofs.Ytbpjflghkkkenaa.row
set_option maxRecDepth 100000
open Go.RowKit
/-- a copy of a list -/
def Cloned {α : Type} (enc : α → List Value) (sz : Nat) (xs : List α) (w : World) (e : Ending) (w' : World) : Prop := ∃ v, e = .returned v ∧ Rw enc sz (fun k => k < w.heap.size) w' v xs ∧ Below w.heap.size w w'

set_option maxHeartbeats 1600000 in
theorem clone_int (v : Value) (xs : List Int) (P : Nat → Prop) (w : World) (hv : Rw enc1 1 P w v xs) (hn : xs.length ≤ 100000) : Calls Try.prog 36 #[v] w (Cloned enc1 1 xs w) := by
  obtain ⟨i0, hi, hz0, hz1, hz2⟩ := info_parts infI
  have hk : ∀ W : World, ∀ a n c, (binOp .eql 22 (.slice a n c) (.slice none 0 0)).run Try.prog W = .ok (.bool a.isNone) W := fun W a n c => Lib.run_eql_slice_nil W 22 3 a n c 0 0 Try.underlying22
  obtain ⟨a, cap, rfl, l1, l2, l3⟩ := hv.form
  cases a with
  | none =>
    obtain rfl := l3 rfl
    have h0 : xs = [] := List.eq_nil_of_length_eq_zero (by omega)
    subst h0
    have hk2 := fun W => hk W none 0 0
    simp only [Option.isNone] at hk2
    have HE : Hid (Cloned enc1 1 ([] : List Int) w (.returned (.slice none 0 0)) w) := Lib.hid ⟨_, rfl, ⟨none, 0, rfl, Nat.le_refl _, by unfold maxLen; omega, fun _ => rfl, fun hp => by simp at hp⟩, Below.refl _ _⟩
    clear hk hv
    go_enter Try.func36, Try.ntmps36
    go_wp2_with fail
    go_ret
    exact HE.out
  | some ad =>
    have hk2 := fun W => hk W (some ad) xs.length cap
    simp only [Option.isNone] at hk2
    have hb0 : Below w.heap.size w (w.alloc (.cells #[] 3)) := (Below.refl _ w).alloc (Nat.le_refl _) _
    have HV := Lib.hid (hv.on hb0)
    have HB := Lib.hid hb0
    have HH : Hid ((w.alloc (.cells #[] 3)).heap[w.heap.size]? = some (.cells #[] 3 (0, 0))) := Lib.hid (by
      show (w.heap.push _)[w.heap.size]? = _
      rw [Array.getElem?_push, if_pos rfl])
    clear hk hv hb0
    go_enter Try.func36, Try.ntmps36
    go_wp2_with (at_builtin; refine wpList_cloneR rfl _ _ 22 3 i0 _ 8 rfl Try.underlying22 hi hz0 hz1 hz2 rfl (by decide) enc1_len w.heap.size w.heap.size (Nat.le_refl _) HH.out rfl rfl HV.out (by omega) ?_)
    intro v' w1 hown hb
    obtain ⟨va, vc, hve⟩ := owns_form hown
    have HE : Hid (Cloned enc1 1 xs w (.returned v') w1) := Lib.hid ⟨v', rfl, rw_of_owned enc1_len hown (fun k hk => hk), HB.out.trans (hb.mono (by omega))⟩
    clear hown hb
    subst hve
    go_wp2_with fail
    go_ret
    exact HE.out

set_option maxHeartbeats 1600000 in
theorem clone_latch (v : Value) (xs : List Tri) (P : Nat → Prop) (w : World) (hv : Rw enc3 3 P w v xs) (hn : xs.length ≤ 100000) : Calls Try.prog 37 #[v] w (Cloned enc3 3 xs w) := by
  obtain ⟨i0, hi, hz0, hz1, hz2⟩ := info_parts infL
  have hk : ∀ W : World, ∀ a n c, (binOp .eql 23 (.slice a n c) (.slice none 0 0)).run Try.prog W = .ok (.bool a.isNone) W := fun W a n c => Lib.run_eql_slice_nil W 23 45 a n c 0 0 Try.underlying23
  obtain ⟨a, cap, rfl, l1, l2, l3⟩ := hv.form
  cases a with
  | none =>
    obtain rfl := l3 rfl
    have h0 : xs = [] := List.eq_nil_of_length_eq_zero (by omega)
    subst h0
    have hk2 := fun W => hk W none 0 0
    simp only [Option.isNone] at hk2
    have HE : Hid (Cloned enc3 3 ([] : List Tri) w (.returned (.slice none 0 0)) w) := Lib.hid ⟨_, rfl, ⟨none, 0, rfl, Nat.le_refl _, by unfold maxLen; omega, fun _ => rfl, fun hp => by simp at hp⟩, Below.refl _ _⟩
    clear hk hv
    go_enter Try.func37, Try.ntmps37
    go_wp2_with fail
    go_ret
    exact HE.out
  | some ad =>
    have hk2 := fun W => hk W (some ad) xs.length cap
    simp only [Option.isNone] at hk2
    have hb0 : Below w.heap.size w (w.alloc (.cells #[] 45)) := (Below.refl _ w).alloc (Nat.le_refl _) _
    have HV := Lib.hid (hv.on hb0)
    have HB := Lib.hid hb0
    have HH : Hid ((w.alloc (.cells #[] 45)).heap[w.heap.size]? = some (.cells #[] 45 (0, 0))) := Lib.hid (by
      show (w.heap.push _)[w.heap.size]? = _
      rw [Array.getElem?_push, if_pos rfl])
    clear hk hv hb0
    go_enter Try.func37, Try.ntmps37
    go_wp2_with (at_builtin; refine wpList_cloneR rfl _ _ 23 45 i0 _ 24 rfl Try.underlying23 hi hz0 hz1 hz2 rfl (by decide) enc3_len w.heap.size w.heap.size (Nat.le_refl _) HH.out rfl rfl HV.out (by omega) ?_)
    intro v' w1 hown hb
    obtain ⟨va, vc, hve⟩ := owns_form hown
    have HE : Hid (Cloned enc3 3 xs w (.returned v') w1) := Lib.hid ⟨v', rfl, rw_of_owned enc3_len hown (fun k hk => hk), HB.out.trans (hb.mono (by omega))⟩
    clear hown hb
    subst hve
    go_wp2_with fail
    go_ret
    exact HE.out

set_option maxHeartbeats 1600000 in
theorem clone_gate (v : Value) (xs : List Tri) (P : Nat → Prop) (w : World) (hv : Rw enc3 3 P w v xs) (hn : xs.length ≤ 100000) : Calls Try.prog 38 #[v] w (Cloned enc3 3 xs w) := by
  obtain ⟨i0, hi, hz0, hz1, hz2⟩ := info_parts infG
  have hk : ∀ W : World, ∀ a n c, (binOp .eql 24 (.slice a n c) (.slice none 0 0)).run Try.prog W = .ok (.bool a.isNone) W := fun W a n c => Lib.run_eql_slice_nil W 24 47 a n c 0 0 Try.underlying24
  obtain ⟨a, cap, rfl, l1, l2, l3⟩ := hv.form
  cases a with
  | none =>
    obtain rfl := l3 rfl
    have h0 : xs = [] := List.eq_nil_of_length_eq_zero (by omega)
    subst h0
    have hk2 := fun W => hk W none 0 0
    simp only [Option.isNone] at hk2
    have HE : Hid (Cloned enc3 3 ([] : List Tri) w (.returned (.slice none 0 0)) w) := Lib.hid ⟨_, rfl, ⟨none, 0, rfl, Nat.le_refl _, by unfold maxLen; omega, fun _ => rfl, fun hp => by simp at hp⟩, Below.refl _ _⟩
    clear hk hv
    go_enter Try.func38, Try.ntmps38
    go_wp2_with fail
    go_ret
    exact HE.out
  | some ad =>
    have hk2 := fun W => hk W (some ad) xs.length cap
    simp only [Option.isNone] at hk2
    have hb0 : Below w.heap.size w (w.alloc (.cells #[] 47)) := (Below.refl _ w).alloc (Nat.le_refl _) _
    have HV := Lib.hid (hv.on hb0)
    have HB := Lib.hid hb0
    have HH : Hid ((w.alloc (.cells #[] 47)).heap[w.heap.size]? = some (.cells #[] 47 (0, 0))) := Lib.hid (by
      show (w.heap.push _)[w.heap.size]? = _
      rw [Array.getElem?_push, if_pos rfl])
    clear hk hv hb0
    go_enter Try.func38, Try.ntmps38
    go_wp2_with (at_builtin; refine wpList_cloneR rfl _ _ 24 47 i0 _ 24 rfl Try.underlying24 hi hz0 hz1 hz2 rfl (by decide) enc3_len w.heap.size w.heap.size (Nat.le_refl _) HH.out rfl rfl HV.out (by omega) ?_)
    intro v' w1 hown hb
    obtain ⟨va, vc, hve⟩ := owns_form hown
    have HE : Hid (Cloned enc3 3 xs w (.returned v') w1) := Lib.hid ⟨v', rfl, rw_of_owned enc3_len hown (fun k hk => hk), HB.out.trans (hb.mono (by omega))⟩
    clear hown hb
    subst hve
    go_wp2_with fail
    go_ret
    exact HE.out

set_option maxHeartbeats 1600000 in
theorem clone_sym (v : Value) (xs : List Sym) (P : Nat → Prop) (w : World) (hv : Rw encS 3 P w v xs) (hn : xs.length ≤ 100000) : Calls Try.prog 39 #[v] w (Cloned encS 3 xs w) := by
  obtain ⟨i0, hi, hz0, hz1, hz2⟩ := info_parts infS
  have hk : ∀ W : World, ∀ a n c, (binOp .eql 25 (.slice a n c) (.slice none 0 0)).run Try.prog W = .ok (.bool a.isNone) W := fun W a n c => Lib.run_eql_slice_nil W 25 59 a n c 0 0 Try.underlying25
  obtain ⟨a, cap, rfl, l1, l2, l3⟩ := hv.form
  cases a with
  | none =>
    obtain rfl := l3 rfl
    have h0 : xs = [] := List.eq_nil_of_length_eq_zero (by omega)
    subst h0
    have hk2 := fun W => hk W none 0 0
    simp only [Option.isNone] at hk2
    have HE : Hid (Cloned encS 3 ([] : List Sym) w (.returned (.slice none 0 0)) w) := Lib.hid ⟨_, rfl, ⟨none, 0, rfl, Nat.le_refl _, by unfold maxLen; omega, fun _ => rfl, fun hp => by simp at hp⟩, Below.refl _ _⟩
    clear hk hv
    go_enter Try.func39, Try.ntmps39
    go_wp2_with fail
    go_ret
    exact HE.out
  | some ad =>
    have hk2 := fun W => hk W (some ad) xs.length cap
    simp only [Option.isNone] at hk2
    have hb0 : Below w.heap.size w (w.alloc (.cells #[] 59)) := (Below.refl _ w).alloc (Nat.le_refl _) _
    have HV := Lib.hid (hv.on hb0)
    have HB := Lib.hid hb0
    have HH : Hid ((w.alloc (.cells #[] 59)).heap[w.heap.size]? = some (.cells #[] 59 (0, 0))) := Lib.hid (by
      show (w.heap.push _)[w.heap.size]? = _
      rw [Array.getElem?_push, if_pos rfl])
    clear hk hv hb0
    go_enter Try.func39, Try.ntmps39
    go_wp2_with (at_builtin; refine wpList_cloneR rfl _ _ 25 59 i0 _ 32 rfl Try.underlying25 hi hz0 hz1 hz2 rfl (by decide) encS_len w.heap.size w.heap.size (Nat.le_refl _) HH.out rfl rfl HV.out (by omega) ?_)
    intro v' w1 hown hb
    obtain ⟨va, vc, hve⟩ := owns_form hown
    have HE : Hid (Cloned encS 3 xs w (.returned v') w1) := Lib.hid ⟨v', rfl, rw_of_owned encS_len hown (fun k hk => hk), HB.out.trans (hb.mono (by omega))⟩
    clear hown hb
    subst hve
    go_wp2_with fail
    go_ret
    exact HE.out
end Go.Proofs.Ytbpjflghkkkenaa.row

/- As XRk, where an operation may write, too: the blocks of Q. -/
namespace Go.Proofs.Ytbpjflghkkkenaa.rinq
open Go Go.RowKit Go.Proofs.Ytbpjflghkkkenaa.rinv
open Go.Proofs.Ytbpjflghkkkenaa.aig (Only)
abbrev VP := Nat → Nat → World → Value → Prop
/-- a value that is known -/
def Ev (c : Value) : VP := fun _ _ _ u => u = c
/-- the values so far, of an operation each; what an operation made lies between its lo and its hi -/
structure Jo (S : World → Prop) (V : List VP) (f : Nat → Bool) (us : List Value) (w : World) : Prop where
  s : S w
  len : us.length = V.length
  h : ∃ lo hi : Nat → Nat, (∀ i, f i = true → ∃ P u, V[i]? = some P ∧ us[i]? = some u ∧ P (lo i) (hi i) w u ∧ hi i ≤ w.heap.size) ∧ ∀ i j, f i = true → f j = true → i ≠ j → hi i ≤ lo j ∨ hi j ≤ lo i
/-- what is so of a value stays so -/
def Stays (Q : Nat → Prop) (P : VP) : Prop := ∀ lo hi w w' u, P lo hi w u → hi ≤ w.heap.size → Only Q w w' → P lo hi w' u
theorem stays_ev (Q : Nat → Prop) (c : Value) : Stays Q (Ev c) := fun _ _ _ _ _ h _ _ => h
theorem Jo.start {S : World → Prop} {V : List VP} {us : List Value} {w : World} (hs : S w) (hl : us.length = V.length) : Jo S V (fun _ => false) us w := ⟨hs, hl, fun _ => 0, fun _ => 0, nofun, nofun⟩
theorem Jo.put {Q : Nat → Prop} {S : World → Prop} {V : List VP} {f : Nat → Bool} {us : List Value} {w w' : World} (J : Jo S V f us w) (i : Nat) (hst : ∀ j P, j ≠ i → V[j]? = some P → Stays Q P) (hf : f i = false) {P : VP} {v : Value} (hP : V[i]? = some P) (hb : Only Q w w') (hv : P w.heap.size w'.heap.size w' v) (hs : S w') : Jo S V (upd f i) (us.set i v) w' := by
  obtain ⟨lo, hi, h1, h2⟩ := J.h
  have hi' := (List.getElem?_eq_some_iff.1 hP).1
  have hsz := hb.size
  have fj : ∀ j, j ≠ i → upd f i j = true → f j = true := fun j hj h => by simpa [upd, show (j == i) = false by simp; omega] using h
  refine ⟨hs, by rw [List.length_set]; exact J.len, fun j => if j = i then w.heap.size else lo j, fun j => if j = i then w'.heap.size else hi j, fun j hj => ?_, fun j k hj hk hne => ?_⟩
  · by_cases e : j = i
    · subst e
      refine ⟨P, v, hP, ?_, ?_, ?_⟩
      · rw [List.getElem?_set, if_pos rfl, if_pos (by rw [J.len]; exact hi')]
      · simpa using hv
      · simp
    · obtain ⟨Q, u, a, b, c, d⟩ := h1 j (fj j e hj)
      refine ⟨Q, u, a, by rw [List.getElem?_set, if_neg (fun e2 => e e2.symm)]; exact b, ?_, ?_⟩
      · simpa [e] using hst j _ e a _ _ _ _ _ c d hb
      · simp [e]; omega
  · by_cases e : j = i
    · subst e
      have hk2 := fj k (fun e => hne e.symm) hk
      obtain ⟨-, -, -, -, -, d⟩ := h1 k hk2
      have e : ¬ k = j := fun e => hne e.symm
      simp [e]; exact .inr d
    · by_cases e2 : k = i
      · subst e2
        obtain ⟨-, -, -, -, -, d⟩ := h1 j (fj j e hj)
        simp [e]; exact .inl d
      · simpa [e, e2] using h2 j k (fj j e hj) (fj k e2 hk) hne
theorem Jo.put0 {S : World → Prop} {V : List VP} {f : Nat → Bool} {us : List Value} {w w' : World} (hst : ∀ P ∈ V, Stays (fun _ => False) P) (J : Jo S V f us w) (i : Nat) (hf : f i = false) {P : VP} {v : Value} (hP : V[i]? = some P) (hb : Only (fun _ => False) w w') (hv : P w.heap.size w'.heap.size w' v) (hs : S w') : Jo S V (upd f i) (us.set i v) w' :=
  J.put i (fun j _ _ h => hst _ (List.mem_iff_getElem?.2 ⟨j, h⟩)) hf hP hb hv hs
theorem Jo.ev {S : World → Prop} {V : List VP} {f : Nat → Bool} {us : List Value} {w : World} (J : Jo S V f us w) (j : Nat) (hf : f j = true) {c u : Value} (hP : V[j]? = some (Ev c)) (hu : us[j]? = some u) : u = c := by
  obtain ⟨lo, hi, h1, -⟩ := J.h
  obtain ⟨P, u', a, b, h, -⟩ := h1 j hf
  rw [hP] at a; obtain rfl := Option.some.inj a
  rw [hu] at b; obtain rfl := Option.some.inj b
  exact h
theorem Jo.get {S : World → Prop} {V : List VP} {f : Nat → Bool} {us : List Value} {w : World} (J : Jo S V f us w) (j : Nat) (hf : f j = true) {P : VP} {u : Value} (hP : V[j]? = some P) (hu : us[j]? = some u) : ∃ lo hi, P lo hi w u ∧ hi ≤ w.heap.size := by
  obtain ⟨lo, hi, h1, -⟩ := J.h
  obtain ⟨P, u', a, b, h, d⟩ := h1 j hf
  rw [hP] at a; obtain rfl := Option.some.inj a
  rw [hu] at b; obtain rfl := Option.some.inj b
  exact ⟨_, _, h, d⟩
/-- several of them together: their parts are apart -/
theorem Jo.both {S : World → Prop} {V : List VP} {f : Nat → Bool} {us : List Value} {w : World} (J : Jo S V f us w) : ∃ lo hi : Nat → Nat, (∀ j (P : VP) (u : Value), f j = true → V[j]? = some P → us[j]? = some u → P (lo j) (hi j) w u ∧ hi j ≤ w.heap.size) ∧ ∀ i j, f i = true → f j = true → i ≠ j → hi i ≤ lo j ∨ hi j ≤ lo i := by
  obtain ⟨lo, hi, h1, h2⟩ := J.h
  refine ⟨lo, hi, fun j P u hf hP hu => ?_, h2⟩
  obtain ⟨P', u', a, b, h, d⟩ := h1 j hf
  rw [hP] at a; obtain rfl := Option.some.inj a
  rw [hu] at b; obtain rfl := Option.some.inj b
  exact ⟨h, d⟩
end Go.Proofs.Ytbpjflghkkkenaa.rinq

/- Clone of a circuit. (Printed by mkZx.py.) -/
namespace Go.Proofs.Ytbpjflghkkkenaa.row
set_option maxRecDepth 100000
open Go.RowKit
open Go.Proofs.Ytbpjflghkkkenaa.aig (Only)
open Go.Proofs.Ytbpjflghkkkenaa.rinv (upd wpOp_of wp_region_inv)
open Go.Proofs.Ytbpjflghkkkenaa.rinq

/-- what holds all the time: the argument, the result's cell -/
structure Cs (W : World) (X : Nat) (D : CD) (F : CF) (u : World) : Prop where
  bel : Below W.heap.size W u
  x : Blk u X (ccells D F)
  i : InC (fun k => W.heap.size ≤ k) u D F
  r : ∃ y0 y1 y2 y3 y4 y5 y6 y7 y8, Blk u (X + 1) #[y0, y1, y2, y3, y4, y5, y6, y7, y8]
  xw : W.heap.size = X
theorem Cs.on {W : World} {X : Nat} {D : CD} {F : CF} {u u' : World} (h : Cs W X D F u) (hb : Below u.heap.size u u') : Cs W X D F u' := by
  obtain ⟨y0, y1, y2, y3, y4, y5, y6, y7, y8, hr⟩ := h.r
  exact ⟨h.bel.trans (hb.mono h.bel.size), h.x.on hb, h.i.on hb, ⟨y0, y1, y2, y3, y4, y5, y6, y7, y8, hr.on hb⟩, h.xw⟩
theorem Cs.drewn {W : World} {X : Nat} {D : CD} {F : CF} {u : World} (h : Cs W X D F u) : Cs W X D F u.drew := h.on (Below.refl _ _).drew
theorem Cs.room {W : World} {X : Nat} {D : CD} {F : CF} {u : World} (h : Cs W X D F u) : X + 1 < u.heap.size := by
  obtain ⟨y0, y1, y2, y3, y4, y5, y6, y7, y8, hr⟩ := h.r
  exact hr.lt
theorem nine_only (w : World) (R : Nat) (v0 v1 v2 v3 v4 v5 v6 v7 v8 : Value) : Only (fun k => k = R) w (((((((((w.setCell ⟨R, 0, none⟩ v0).setCell ⟨R, 1, none⟩ v1).setCell ⟨R, 2, none⟩ v2).setCell ⟨R, 3, none⟩ v3).setCell ⟨R, 4, none⟩ v4).setCell ⟨R, 5, none⟩ v5).setCell ⟨R, 6, none⟩ v6).setCell ⟨R, 7, none⟩ v7).setCell ⟨R, 8, none⟩ v8) := by
  have q : ∀ (u : World) (j : Nat) (v : Value), Only (fun k => k = R) w u → Only (fun k => k = R) w (u.setCell ⟨R, j, none⟩ v) := fun u j v h => by
    have k := (Below.refl R u).setCell (p := ⟨R, j, none⟩) (Nat.le_refl _) v
    refine ⟨k.os.trans h.os, k.tape.trans h.tape, k.output.trans h.output, Nat.le_trans h.size k.size, fun i hi hn => (Below.heap_setCell u ⟨R, j, none⟩ v i hn).trans (h.block i hi hn)⟩
  exact q _ _ _ (q _ _ _ (q _ _ _ (q _ _ _ (q _ _ _ (q _ _ _ (q _ _ _ (q _ _ _ (q _ _ _ (only_refl _ _)))))))))
theorem Cs.nine {W : World} {X : Nat} {D : CD} {F : CF} {w : World} {y0 y1 y2 y3 y4 y5 y6 y7 y8 : Value} (h : Cs W X D F w) (hr : Blk w (X + 1) #[y0, y1, y2, y3, y4, y5, y6, y7, y8]) (v0 v1 v2 v3 v4 v5 v6 v7 v8 : Value) :
    Cs W X D F (((((((((w.setCell ⟨X + 1, 0, none⟩ v0).setCell ⟨X + 1, 1, none⟩ v1).setCell ⟨X + 1, 2, none⟩ v2).setCell ⟨X + 1, 3, none⟩ v3).setCell ⟨X + 1, 4, none⟩ v4).setCell ⟨X + 1, 5, none⟩ v5).setCell ⟨X + 1, 6, none⟩ v6).setCell ⟨X + 1, 7, none⟩ v7).setCell ⟨X + 1, 8, none⟩ v8) := by
  have o := nine_only w (X + 1) v0 v1 v2 v3 v4 v5 v6 v7 v8
  refine ⟨nine_below v0 v1 v2 v3 v4 v5 v6 v7 v8 h.bel (by have := h.xw; omega), h.x.only (fun e => by omega) o, ?_, ⟨v0, v1, v2, v3, v4, v5, v6, v7, v8, nine_put v0 v1 v2 v3 v4 v5 v6 v7 v8 hr⟩, h.xw⟩
  have hq : ∀ k, k = X + 1 → W.heap.size ≤ k := fun k e => by have := h.xw; omega
  have lw : ∀ {α : Type} {enc : α → List Value} {sz : Nat} {v : Value} {xs : List α} {w' : World}, Rw enc sz (fun k => W.heap.size ≤ k) w v xs → Only (fun k => k = X + 1) w w' → Rw enc sz (fun k => W.heap.size ≤ k) w' v xs :=
    fun h o => h.same o.size (fun k hk hn => o.block k hk (fun e => hn (hq k e)))
  exact ⟨lw h.i.i o, lw h.i.l o, lw h.i.o o, lw h.i.b o, lw h.i.c o, lw h.i.g o, lw h.i.s o⟩
/-- the blocks in which no copy lies -/
def NoC (W X k : Nat) : Prop := k < W ∨ k = X + 1
def RwV {α : Type} (W X : Nat) (enc : α → List Value) (sz : Nat) (xs : List α) : VP := fun _ _ u v => ∃ a c, v = .slice a xs.length c ∧ Rw enc sz (NoC W X) u (.slice a xs.length c) xs
def AggC (W X : Nat) (D : CD) : VP := fun _ _ u v => ∃ F', v = .agg (ccells D F') ∧ InC (NoC W X) u D F'
def DoneC (W X : Nat) (D : CD) : VP := fun _ _ u _ => ∃ F', Blk u (X + 1) (ccells D F') ∧ InC (fun k => k < W) u D F'
theorem rwv_of {α : Type} {W X : Nat} {enc : α → List Value} {sz : Nat} {xs : List α} {w1 w2 : World} {v : Value} {lo hi : Nat} (h : Rw enc sz (fun k => k < w1.heap.size) w2 v xs) (hr : X + 1 < w1.heap.size) (hw : W ≤ w1.heap.size) : RwV W X enc sz xs lo hi w2 v := by
  obtain ⟨a, c, rfl, -⟩ := h.form
  exact ⟨a, c, rfl, h.weak (fun k _ hk => by rcases hk with e | e <;> omega)⟩
theorem agg_of {W X : Nat} {D : CD} {w : World} {p1 p2 p3 p4 p5 p6 p7 : Option Addr} {q1 q2 q3 q4 q5 q6 q7 : Nat} (lo hi : Nat) (h1 : Rw enc1 1 (NoC W X) w (.slice p1 D.ins.length q1) D.ins) (h2 : Rw enc3 3 (NoC W X) w (.slice p2 D.lats.length q2) D.lats) (h3 : Rw enc1 1 (NoC W X) w (.slice p3 D.outs.length q3) D.outs)
    (h4 : Rw enc1 1 (NoC W X) w (.slice p4 D.bads.length q4) D.bads) (h5 : Rw enc1 1 (NoC W X) w (.slice p5 D.cons.length q5) D.cons) (h6 : Rw enc3 3 (NoC W X) w (.slice p6 D.gates.length q6) D.gates) (h7 : Rw encS 3 (NoC W X) w (.slice p7 D.syms.length q7) D.syms) :
    AggC W X D lo hi w (.agg #[.int .i64 D.max, .slice p1 D.ins.length q1, .slice p2 D.lats.length q2, .slice p3 D.outs.length q3, .slice p4 D.bads.length q4, .slice p5 D.cons.length q5, .slice p6 D.gates.length q6, .slice p7 D.syms.length q7, .string D.com]) :=
  ⟨⟨p1, q1, p2, q2, p3, q3, p4, q4, p5, q5, p6, q6, p7, q7⟩, rfl, ⟨h1, h2, h3, h4, h5, h6, h7⟩⟩
theorem done_of {W X : Nat} {D : CD} {p1 p2 p3 p4 p5 p6 p7 : Option Addr} {q1 q2 q3 q4 q5 q6 q7 : Nat} {w : World} {y0 y1 y2 y3 y4 y5 y6 y7 y8 : Value} (hr : Blk w (X + 1) #[y0, y1, y2, y3, y4, y5, y6, y7, y8]) (hi' : InC (NoC W X) w D ⟨p1, q1, p2, q2, p3, q3, p4, q4, p5, q5, p6, q6, p7, q7⟩) :
    ∀ lo hi u, DoneC W X D lo hi (((((((((w.setCell ⟨X + 1, 0, none⟩ (.int .i64 D.max)).setCell ⟨X + 1, 1, none⟩ (.slice p1 D.ins.length q1)).setCell ⟨X + 1, 2, none⟩ (.slice p2 D.lats.length q2)).setCell ⟨X + 1, 3, none⟩ (.slice p3 D.outs.length q3)).setCell ⟨X + 1, 4, none⟩ (.slice p4 D.bads.length q4)).setCell ⟨X + 1, 5, none⟩ (.slice p5 D.cons.length q5)).setCell ⟨X + 1, 6, none⟩ (.slice p6 D.gates.length q6)).setCell ⟨X + 1, 7, none⟩ (.slice p7 D.syms.length q7)).setCell ⟨X + 1, 8, none⟩ (.string D.com)) u := by
  intro lo hi u
  refine ⟨⟨p1, q1, p2, q2, p3, q3, p4, q4, p5, q5, p6, q6, p7, q7⟩, nine_put _ _ _ _ _ _ _ _ _ hr, ?_⟩
  have o := nine_only w (X + 1) (.int .i64 D.max) (.slice p1 D.ins.length q1) (.slice p2 D.lats.length q2) (.slice p3 D.outs.length q3) (.slice p4 D.bads.length q4) (.slice p5 D.cons.length q5) (.slice p6 D.gates.length q6) (.slice p7 D.syms.length q7) (.string D.com)
  have h2 := hi'.same o.size (fun k hk hn => o.block k hk (fun e => hn (.inr e)))
  exact h2.weak (fun k _ hk => .inl hk)
theorem stays_clone {X : Nat} (Q : Nat → Prop) (hQ : ∀ k, Q k → k = X + 1) (W : Nat) (D : CD) : (∀ {α : Type} (enc : α → List Value) (sz : Nat) (xs : List α), Stays Q (RwV W X enc sz xs)) ∧ Stays Q (AggC W X D) := by
  refine ⟨?_, ?_⟩
  · rintro α enc sz xs lo hi w w' u ⟨a, c, e, h⟩ - o
    exact ⟨a, c, e, h.same o.size (fun k hk hn => o.block k hk (fun e => hn (.inr (hQ k e))))⟩
  · rintro lo hi w w' u ⟨F', e, h⟩ - o
    exact ⟨F', e, h.same o.size (fun k hk hn => o.block k hk (fun e => hn (.inr (hQ k e))))⟩
theorem stays_done (W X : Nat) (D : CD) : Stays (fun _ => False) (DoneC W X D) := by
  rintro lo hi w w' u ⟨F', h1, h2⟩ - o
  exact ⟨F', h1.only id o, h2.same o.size (fun k hk _ => o.block k hk id)⟩
structure LensC (D : CD) : Prop where
  ins : D.ins.length ≤ 100000
  lats : D.lats.length ≤ 100000
  outs : D.outs.length ≤ 100000
  bads : D.bads.length ≤ 100000
  cons : D.cons.length ≤ 100000
  gates : D.gates.length ≤ 100000
  syms : D.syms.length ≤ 100000
theorem ex27 {β : Type} {F : Value → Value → Value → Value → Value → Value → Value → Value → Value → Value → Value → Value → Value → Value → Value → Value → Value → Value → Value → Value → Value → Value → Value → Value → Value → Value → Value → β} {J : Value → Value → Value → Value → Value → Value → Value → Value → Value → Value → Value → Value → Value → Value → Value → Value → Value → Value → Value → Value → Value → Value → Value → Value → Value → Value → Value → Prop} {a : β} (h : ∃ u0 u1 u2 u3 u4 u5 u6 u7 u8 u9 u10 u11 u12 u13 u14 u15 u16 u17 u18 u19 u20 u21 u22 u23 u24 u25 u26, a = F u0 u1 u2 u3 u4 u5 u6 u7 u8 u9 u10 u11 u12 u13 u14 u15 u16 u17 u18 u19 u20 u21 u22 u23 u24 u25 u26 ∧ J u0 u1 u2 u3 u4 u5 u6 u7 u8 u9 u10 u11 u12 u13 u14 u15 u16 u17 u18 u19 u20 u21 u22 u23 u24 u25 u26) {G : β → Prop} (k : ∀ u0 u1 u2 u3 u4 u5 u6 u7 u8 u9 u10 u11 u12 u13 u14 u15 u16 u17 u18 u19 u20 u21 u22 u23 u24 u25 u26, J u0 u1 u2 u3 u4 u5 u6 u7 u8 u9 u10 u11 u12 u13 u14 u15 u16 u17 u18 u19 u20 u21 u22 u23 u24 u25 u26 → G (F u0 u1 u2 u3 u4 u5 u6 u7 u8 u9 u10 u11 u12 u13 u14 u15 u16 u17 u18 u19 u20 u21 u22 u23 u24 u25 u26)) : G a := by
  obtain ⟨u0, u1, u2, u3, u4, u5, u6, u7, u8, u9, u10, u11, u12, u13, u14, u15, u16, u17, u18, u19, u20, u21, u22, u23, u24, u25, u26, rfl, j⟩ := h
  exact k _ _ _ _ _ _ _ _ _ _ _ _ _ _ _ _ _ _ _ _ _ _ _ _ _ _ _ j
theorem all_of27 {T : Nat → Prop} (h0 : T 0) (h1 : T 1) (h2 : T 2) (h3 : T 3) (h4 : T 4) (h5 : T 5) (h6 : T 6) (h7 : T 7) (h8 : T 8) (h9 : T 9) (h10 : T 10) (h11 : T 11) (h12 : T 12) (h13 : T 13) (h14 : T 14) (h15 : T 15) (h16 : T 16) (h17 : T 17) (h18 : T 18) (h19 : T 19) (h20 : T 20) (h21 : T 21) (h22 : T 22) (h23 : T 23) (h24 : T 24) (h25 : T 25) (h26 : T 26) : ∀ i, i < 27 → T i := by
  intro i hi
  match i, hi with
  | 0, _ => exact h0
  | 1, _ => exact h1
  | 2, _ => exact h2
  | 3, _ => exact h3
  | 4, _ => exact h4
  | 5, _ => exact h5
  | 6, _ => exact h6
  | 7, _ => exact h7
  | 8, _ => exact h8
  | 9, _ => exact h9
  | 10, _ => exact h10
  | 11, _ => exact h11
  | 12, _ => exact h12
  | 13, _ => exact h13
  | 14, _ => exact h14
  | 15, _ => exact h15
  | 16, _ => exact h16
  | 17, _ => exact h17
  | 18, _ => exact h18
  | 19, _ => exact h19
  | 20, _ => exact h20
  | 21, _ => exact h21
  | 22, _ => exact h22
  | 23, _ => exact h23
  | 24, _ => exact h24
  | 25, _ => exact h25
  | 26, _ => exact h26
  | n + 27, h => omega

set_option maxHeartbeats 3200000 in
theorem clone_any (D : CD) (F : CF) (P : Nat → Prop) (w0 : World) (hc : InC P w0 D F) (hl : Lens D) :
    Calls Try.prog 20 #[cval D F] w0 fun e w' => ∃ F', e = .returned (cval D F') ∧ InC (OldR w0) w' D F' ∧ Below w0.heap.size w0 w' := by
  have hb1 : Below w0.heap.size w0 (w0.alloc (.cells (ccells D F) 27)) := (Below.refl _ _).alloc (Nat.le_refl _) _
  have s1 : (w0.alloc (.cells (ccells D F) 27)).heap.size = w0.heap.size + 1 := by simp
  have hb2 : Below (w0.alloc (.cells (ccells D F) 27)).heap.size (w0.alloc (.cells (ccells D F) 27)) ((w0.alloc (.cells (ccells D F) 27)).alloc (.cells #[.int .i64 0, .slice none 0 0, .slice none 0 0, .slice none 0 0, .slice none 0 0, .slice none 0 0, .slice none 0 0, .slice none 0 0, .string ⟨#[]⟩] 27)) := (Below.refl _ _).alloc (Nat.le_refl _) _
  have hr := blk_new (w0.alloc (.cells (ccells D F) 27)) #[.int .i64 0, .slice none 0 0, .slice none 0 0, .slice none 0 0, .slice none 0 0, .slice none 0 0, .slice none 0 0, .slice none 0 0, .string ⟨#[]⟩] 27
  rw [s1] at hr
  have hb := hb1.trans (hb2.mono hb1.size)
  have HS0 : Hid (Cs w0 w0.heap.size D F ((w0.alloc (.cells (ccells D F) 27)).alloc (.cells #[.int .i64 0, .slice none 0 0, .slice none 0 0, .slice none 0 0, .slice none 0 0, .slice none 0 0, .slice none 0 0, .slice none 0 0, .string ⟨#[]⟩] 27))) := Lib.hid
    ⟨hb, (blk_new w0 _ _).on hb2, (hc.weak (Q := fun k => w0.heap.size ≤ k) (fun k hk hq => absurd hq (by omega))).on hb, ⟨_, _, _, _, _, _, _, _, _, hr⟩, rfl⟩
  have HL : Hid (LensC D) := Lib.hid ⟨by have := hl.i; omega, by have := hl.l; omega, by have := hl.o; omega, by have := hl.b; omega, by have := hl.c; omega, by have := hl.g; omega, by have := hl.s; omega⟩
  obtain ⟨v0, hv0⟩ : ∃ v0, v0 = ((w0.alloc (.cells (ccells D F) 27)).alloc (.cells #[.int .i64 0, .slice none 0 0, .slice none 0 0, .slice none 0 0, .slice none 0 0, .slice none 0 0, .slice none 0 0, .slice none 0 0, .string ⟨#[]⟩] 27)) := ⟨_, rfl⟩
  obtain ⟨X, hX⟩ : ∃ X, X = w0.heap.size := ⟨_, rfl⟩
  have HV0 := Lib.hid hv0
  have HXE := Lib.hid hX
  rw [← hv0, ← hX] at HS0
  obtain ⟨sa, sb⟩ := stays_clone (X := X) (fun _ => False) (fun k e => e.elim) w0.heap.size D
  obtain ⟨sc, sd⟩ := stays_clone (X := X) (fun k => k = X + 1) (fun k e => e) w0.heap.size D
  have se := stays_done w0.heap.size X D
  have HST : ∀ P ∈ ([Ev (.pointer (some ⟨X, 0, none⟩)), Ev (.int .i64 D.max), Ev (.pointer (some ⟨X, 1, none⟩)), Ev (.slice F.ai D.ins.length F.ci), RwV w0.heap.size X (enc1) 1 D.ins, Ev (.pointer (some ⟨X, 2, none⟩)), Ev (.slice F.al D.lats.length F.cl), RwV w0.heap.size X (enc3) 3 D.lats, Ev (.pointer (some ⟨X, 3, none⟩)), Ev (.slice F.ao D.outs.length F.co), RwV w0.heap.size X (enc1) 1 D.outs, Ev (.pointer (some ⟨X, 4, none⟩)), Ev (.slice F.ab D.bads.length F.cb), RwV w0.heap.size X (enc1) 1 D.bads, Ev (.pointer (some ⟨X, 5, none⟩)), Ev (.slice F.ac D.cons.length F.cc), RwV w0.heap.size X (enc1) 1 D.cons, Ev (.pointer (some ⟨X, 6, none⟩)), Ev (.slice F.ag D.gates.length F.cg), RwV w0.heap.size X (enc3) 3 D.gates, Ev (.pointer (some ⟨X, 7, none⟩)), Ev (.slice F.as_ D.syms.length F.cs), RwV w0.heap.size X (encS) 3 D.syms, Ev (.pointer (some ⟨X, 8, none⟩)), Ev (.string D.com), AggC w0.heap.size X D, DoneC w0.heap.size X D] : List VP), Stays (fun _ => False) P := by
    intro P hP
    simp only [List.mem_cons, List.not_mem_nil, or_false] at hP
    rcases hP with rfl | rfl | rfl | rfl | rfl | rfl | rfl | rfl | rfl | rfl | rfl | rfl | rfl | rfl | rfl | rfl | rfl | rfl | rfl | rfl | rfl | rfl | rfl | rfl | rfl | rfl | rfl <;> first | exact stays_ev _ _ | exact sa _ _ _ | exact sb | exact se
  have HST26 : ∀ (j : Nat) (P : VP), j ≠ 26 → ([Ev (.pointer (some ⟨X, 0, none⟩)), Ev (.int .i64 D.max), Ev (.pointer (some ⟨X, 1, none⟩)), Ev (.slice F.ai D.ins.length F.ci), RwV w0.heap.size X (enc1) 1 D.ins, Ev (.pointer (some ⟨X, 2, none⟩)), Ev (.slice F.al D.lats.length F.cl), RwV w0.heap.size X (enc3) 3 D.lats, Ev (.pointer (some ⟨X, 3, none⟩)), Ev (.slice F.ao D.outs.length F.co), RwV w0.heap.size X (enc1) 1 D.outs, Ev (.pointer (some ⟨X, 4, none⟩)), Ev (.slice F.ab D.bads.length F.cb), RwV w0.heap.size X (enc1) 1 D.bads, Ev (.pointer (some ⟨X, 5, none⟩)), Ev (.slice F.ac D.cons.length F.cc), RwV w0.heap.size X (enc1) 1 D.cons, Ev (.pointer (some ⟨X, 6, none⟩)), Ev (.slice F.ag D.gates.length F.cg), RwV w0.heap.size X (enc3) 3 D.gates, Ev (.pointer (some ⟨X, 7, none⟩)), Ev (.slice F.as_ D.syms.length F.cs), RwV w0.heap.size X (encS) 3 D.syms, Ev (.pointer (some ⟨X, 8, none⟩)), Ev (.string D.com), AggC w0.heap.size X D, DoneC w0.heap.size X D] : List VP)[j]? = some P → Stays (fun k => k = X + 1) P := by
    intro j P hj hP
    match j, hj, hP with
    | 0, _, hP => obtain rfl := Option.some.inj hP; exact stays_ev _ _
    | 1, _, hP => obtain rfl := Option.some.inj hP; exact stays_ev _ _
    | 2, _, hP => obtain rfl := Option.some.inj hP; exact stays_ev _ _
    | 3, _, hP => obtain rfl := Option.some.inj hP; exact stays_ev _ _
    | 4, _, hP => obtain rfl := Option.some.inj hP; exact sc _ _ _
    | 5, _, hP => obtain rfl := Option.some.inj hP; exact stays_ev _ _
    | 6, _, hP => obtain rfl := Option.some.inj hP; exact stays_ev _ _
    | 7, _, hP => obtain rfl := Option.some.inj hP; exact sc _ _ _
    | 8, _, hP => obtain rfl := Option.some.inj hP; exact stays_ev _ _
    | 9, _, hP => obtain rfl := Option.some.inj hP; exact stays_ev _ _
    | 10, _, hP => obtain rfl := Option.some.inj hP; exact sc _ _ _
    | 11, _, hP => obtain rfl := Option.some.inj hP; exact stays_ev _ _
    | 12, _, hP => obtain rfl := Option.some.inj hP; exact stays_ev _ _
    | 13, _, hP => obtain rfl := Option.some.inj hP; exact sc _ _ _
    | 14, _, hP => obtain rfl := Option.some.inj hP; exact stays_ev _ _
    | 15, _, hP => obtain rfl := Option.some.inj hP; exact stays_ev _ _
    | 16, _, hP => obtain rfl := Option.some.inj hP; exact sc _ _ _
    | 17, _, hP => obtain rfl := Option.some.inj hP; exact stays_ev _ _
    | 18, _, hP => obtain rfl := Option.some.inj hP; exact stays_ev _ _
    | 19, _, hP => obtain rfl := Option.some.inj hP; exact sc _ _ _
    | 20, _, hP => obtain rfl := Option.some.inj hP; exact stays_ev _ _
    | 21, _, hP => obtain rfl := Option.some.inj hP; exact stays_ev _ _
    | 22, _, hP => obtain rfl := Option.some.inj hP; exact sc _ _ _
    | 23, _, hP => obtain rfl := Option.some.inj hP; exact stays_ev _ _
    | 24, _, hP => obtain rfl := Option.some.inj hP; exact stays_ev _ _
    | 25, _, hP => obtain rfl := Option.some.inj hP; exact sd
    | 26, hj, _ => exact absurd rfl hj
    | n + 27, _, hP => simp at hP
  clear sa sb sc sd se hb1 hb2 hb hr s1 hc hl hv0 hX
  go_enter Try.func20, Try.ntmps20
  go_upto_region 1 with fail
  rw [← HV0.out, ← HXE.out]
  refine wp_region_inv (by kernel_rfl) (by kernel_rfl) (fun f a w' => ∃ u3 u4 u5 u6 u7 u8 u9 u10 u11 u12 u13 u14 u15 u16 u17 u18 u19 u20 u21 u22 u23 u24 u25 u26 u27 u28 u99, a = ⟨#[cval D F, .pointer (some ⟨X, 0, none⟩), .pointer (some ⟨X + 1, 0, none⟩), u3, u4, u5, u6, u7, u8, u9, u10, u11, u12, u13, u14, u15, u16, u17, u18, u19, u20, u21, u22, u23, u24, u25, u26, u27, u28], []⟩ ∧ Jo (Cs w0 X D F) [Ev (.pointer (some ⟨X, 0, none⟩)), Ev (.int .i64 D.max), Ev (.pointer (some ⟨X, 1, none⟩)), Ev (.slice F.ai D.ins.length F.ci), RwV w0.heap.size X (enc1) 1 D.ins, Ev (.pointer (some ⟨X, 2, none⟩)), Ev (.slice F.al D.lats.length F.cl), RwV w0.heap.size X (enc3) 3 D.lats, Ev (.pointer (some ⟨X, 3, none⟩)), Ev (.slice F.ao D.outs.length F.co), RwV w0.heap.size X (enc1) 1 D.outs, Ev (.pointer (some ⟨X, 4, none⟩)), Ev (.slice F.ab D.bads.length F.cb), RwV w0.heap.size X (enc1) 1 D.bads, Ev (.pointer (some ⟨X, 5, none⟩)), Ev (.slice F.ac D.cons.length F.cc), RwV w0.heap.size X (enc1) 1 D.cons, Ev (.pointer (some ⟨X, 6, none⟩)), Ev (.slice F.ag D.gates.length F.cg), RwV w0.heap.size X (enc3) 3 D.gates, Ev (.pointer (some ⟨X, 7, none⟩)), Ev (.slice F.as_ D.syms.length F.cs), RwV w0.heap.size X (encS) 3 D.syms, Ev (.pointer (some ⟨X, 8, none⟩)), Ev (.string D.com), AggC w0.heap.size X D, DoneC w0.heap.size X D] f [u3, u4, u5, u6, u7, u8, u9, u10, u11, u12, u13, u14, u15, u16, u17, u18, u19, u20, u21, u22, u23, u24, u25, u26, u27, u28, u99] w') ?_ ?_ ?_
  · exact ⟨_, _, _, _, _, _, _, _, _, _, _, _, _, _, _, _, _, _, _, _, _, _, _, _, _, _, undef, rfl, Jo.start HS0.out.drewn rfl⟩
  · refine all_of27 ?_ ?_ ?_ ?_ ?_ ?_ ?_ ?_ ?_ ?_ ?_ ?_ ?_ ?_ ?_ ?_ ?_ ?_ ?_ ?_ ?_ ?_ ?_ ?_ ?_ ?_ ?_
    · intro f a w1 hf he hI
      refine ex27 hI (G := fun a => wpOp Try.prog _ _ 0 _ a w1) ?_
      clear hI
      intro u3 u4 u5 u6 u7 u8 u9 u10 u11 u12 u13 u14 u15 u16 u17 u18 u19 u20 u21 u22 u23 u24 u25 u26 u27 u28 u99 J
      show wpOp Try.prog _ _ 0 _ _ w1
      have hs := J.s
      clear he
      refine wpOp_of rfl rfl (fun K hK => ?_)
      go_simp
      exact hK _ _ ⟨_, _, _, _, _, _, _, _, _, _, _, _, _, _, _, _, _, _, _, _, _, _, _, _, _, _, _, rfl, J.put0 HST 0 hf rfl (only_refl _ _) rfl hs⟩
    · intro f a w1 hf he hI
      refine ex27 hI (G := fun a => wpOp Try.prog _ _ 1 _ a w1) ?_
      clear hI
      intro u3 u4 u5 u6 u7 u8 u9 u10 u11 u12 u13 u14 u15 u16 u17 u18 u19 u20 u21 u22 u23 u24 u25 u26 u27 u28 u99 J
      show wpOp Try.prog _ _ 1 _ _ w1
      have f0 := he _ rfl ⟨0, .data⟩ (by simp) rfl
      obtain rfl : u3 = .pointer (some ⟨X, 0, none⟩) := J.ev 0 f0 rfl rfl
      have hs := J.s
      clear he
      have k0 := (hs.x.cell 0).1
      skip
      have lX := hs.x.lt
      refine wpOp_of rfl rfl (fun K hK => ?_)
      go_simp
      exact hK _ _ ⟨_, _, _, _, _, _, _, _, _, _, _, _, _, _, _, _, _, _, _, _, _, _, _, _, _, _, _, rfl, J.put0 HST 1 hf rfl (only_refl _ _) rfl hs⟩
    · intro f a w1 hf he hI
      refine ex27 hI (G := fun a => wpOp Try.prog _ _ 2 _ a w1) ?_
      clear hI
      intro u3 u4 u5 u6 u7 u8 u9 u10 u11 u12 u13 u14 u15 u16 u17 u18 u19 u20 u21 u22 u23 u24 u25 u26 u27 u28 u99 J
      show wpOp Try.prog _ _ 2 _ _ w1
      have hs := J.s
      clear he
      refine wpOp_of rfl rfl (fun K hK => ?_)
      go_simp
      exact hK _ _ ⟨_, _, _, _, _, _, _, _, _, _, _, _, _, _, _, _, _, _, _, _, _, _, _, _, _, _, _, rfl, J.put0 HST 2 hf rfl (only_refl _ _) rfl hs⟩
    · intro f a w1 hf he hI
      refine ex27 hI (G := fun a => wpOp Try.prog _ _ 3 _ a w1) ?_
      clear hI
      intro u3 u4 u5 u6 u7 u8 u9 u10 u11 u12 u13 u14 u15 u16 u17 u18 u19 u20 u21 u22 u23 u24 u25 u26 u27 u28 u99 J
      show wpOp Try.prog _ _ 3 _ _ w1
      have f2 := he _ rfl ⟨2, .data⟩ (by simp) rfl
      obtain rfl : u5 = .pointer (some ⟨X, 1, none⟩) := J.ev 2 f2 rfl rfl
      have hs := J.s
      clear he
      have k1 := (hs.x.cell 1).1
      skip
      have lX := hs.x.lt
      refine wpOp_of rfl rfl (fun K hK => ?_)
      go_simp
      exact hK _ _ ⟨_, _, _, _, _, _, _, _, _, _, _, _, _, _, _, _, _, _, _, _, _, _, _, _, _, _, _, rfl, J.put0 HST 3 hf rfl (only_refl _ _) rfl hs⟩
    · intro f a w1 hf he hI
      refine ex27 hI (G := fun a => wpOp Try.prog _ _ 4 _ a w1) ?_
      clear hI
      intro u3 u4 u5 u6 u7 u8 u9 u10 u11 u12 u13 u14 u15 u16 u17 u18 u19 u20 u21 u22 u23 u24 u25 u26 u27 u28 u99 J
      show wpOp Try.prog _ _ 4 _ _ w1
      have f3 := he _ rfl ⟨3, .data⟩ (by simp) rfl
      obtain rfl : u6 = .slice F.ai D.ins.length F.ci := J.ev 3 f3 rfl rfl
      have hs := J.s
      clear he
      refine wpOp_of rfl rfl (fun K hK => ?_)
      go_simp
      go_wp2_with (go_at_call 36; refine (clone_int _ D.ins _ w1 hs.i.i (HL.out.ins)).mono ?_; rintro e w2 ⟨v', rfl, r2, b2⟩)
      exact ⟨_, _, _, _, _, _, _, _, _, _, _, _, _, _, _, _, _, _, _, _, _, _, _, _, _, _, _, rfl, J.put0 HST 4 hf rfl (only_of b2) (rwv_of r2 hs.room hs.bel.size) (hs.on b2)⟩
    · intro f a w1 hf he hI
      refine ex27 hI (G := fun a => wpOp Try.prog _ _ 5 _ a w1) ?_
      clear hI
      intro u3 u4 u5 u6 u7 u8 u9 u10 u11 u12 u13 u14 u15 u16 u17 u18 u19 u20 u21 u22 u23 u24 u25 u26 u27 u28 u99 J
      show wpOp Try.prog _ _ 5 _ _ w1
      have hs := J.s
      clear he
      refine wpOp_of rfl rfl (fun K hK => ?_)
      go_simp
      exact hK _ _ ⟨_, _, _, _, _, _, _, _, _, _, _, _, _, _, _, _, _, _, _, _, _, _, _, _, _, _, _, rfl, J.put0 HST 5 hf rfl (only_refl _ _) rfl hs⟩
    · intro f a w1 hf he hI
      refine ex27 hI (G := fun a => wpOp Try.prog _ _ 6 _ a w1) ?_
      clear hI
      intro u3 u4 u5 u6 u7 u8 u9 u10 u11 u12 u13 u14 u15 u16 u17 u18 u19 u20 u21 u22 u23 u24 u25 u26 u27 u28 u99 J
      show wpOp Try.prog _ _ 6 _ _ w1
      have f5 := he _ rfl ⟨5, .data⟩ (by simp) rfl
      obtain rfl : u8 = .pointer (some ⟨X, 2, none⟩) := J.ev 5 f5 rfl rfl
      have hs := J.s
      clear he
      have k2 := (hs.x.cell 2).1
      skip
      have lX := hs.x.lt
      refine wpOp_of rfl rfl (fun K hK => ?_)
      go_simp
      exact hK _ _ ⟨_, _, _, _, _, _, _, _, _, _, _, _, _, _, _, _, _, _, _, _, _, _, _, _, _, _, _, rfl, J.put0 HST 6 hf rfl (only_refl _ _) rfl hs⟩
    · intro f a w1 hf he hI
      refine ex27 hI (G := fun a => wpOp Try.prog _ _ 7 _ a w1) ?_
      clear hI
      intro u3 u4 u5 u6 u7 u8 u9 u10 u11 u12 u13 u14 u15 u16 u17 u18 u19 u20 u21 u22 u23 u24 u25 u26 u27 u28 u99 J
      show wpOp Try.prog _ _ 7 _ _ w1
      have f6 := he _ rfl ⟨6, .data⟩ (by simp) rfl
      obtain rfl : u9 = .slice F.al D.lats.length F.cl := J.ev 6 f6 rfl rfl
      have hs := J.s
      clear he
      refine wpOp_of rfl rfl (fun K hK => ?_)
      go_simp
      go_wp2_with (go_at_call 37; refine (clone_latch _ D.lats _ w1 hs.i.l (HL.out.lats)).mono ?_; rintro e w2 ⟨v', rfl, r2, b2⟩)
      exact ⟨_, _, _, _, _, _, _, _, _, _, _, _, _, _, _, _, _, _, _, _, _, _, _, _, _, _, _, rfl, J.put0 HST 7 hf rfl (only_of b2) (rwv_of r2 hs.room hs.bel.size) (hs.on b2)⟩
    · intro f a w1 hf he hI
      refine ex27 hI (G := fun a => wpOp Try.prog _ _ 8 _ a w1) ?_
      clear hI
      intro u3 u4 u5 u6 u7 u8 u9 u10 u11 u12 u13 u14 u15 u16 u17 u18 u19 u20 u21 u22 u23 u24 u25 u26 u27 u28 u99 J
      show wpOp Try.prog _ _ 8 _ _ w1
      have hs := J.s
      clear he
      refine wpOp_of rfl rfl (fun K hK => ?_)
      go_simp
      exact hK _ _ ⟨_, _, _, _, _, _, _, _, _, _, _, _, _, _, _, _, _, _, _, _, _, _, _, _, _, _, _, rfl, J.put0 HST 8 hf rfl (only_refl _ _) rfl hs⟩
    · intro f a w1 hf he hI
      refine ex27 hI (G := fun a => wpOp Try.prog _ _ 9 _ a w1) ?_
      clear hI
      intro u3 u4 u5 u6 u7 u8 u9 u10 u11 u12 u13 u14 u15 u16 u17 u18 u19 u20 u21 u22 u23 u24 u25 u26 u27 u28 u99 J
      show wpOp Try.prog _ _ 9 _ _ w1
      have f8 := he _ rfl ⟨8, .data⟩ (by simp) rfl
      obtain rfl : u11 = .pointer (some ⟨X, 3, none⟩) := J.ev 8 f8 rfl rfl
      have hs := J.s
      clear he
      have k3 := (hs.x.cell 3).1
      skip
      have lX := hs.x.lt
      refine wpOp_of rfl rfl (fun K hK => ?_)
      go_simp
      exact hK _ _ ⟨_, _, _, _, _, _, _, _, _, _, _, _, _, _, _, _, _, _, _, _, _, _, _, _, _, _, _, rfl, J.put0 HST 9 hf rfl (only_refl _ _) rfl hs⟩
    · intro f a w1 hf he hI
      refine ex27 hI (G := fun a => wpOp Try.prog _ _ 10 _ a w1) ?_
      clear hI
      intro u3 u4 u5 u6 u7 u8 u9 u10 u11 u12 u13 u14 u15 u16 u17 u18 u19 u20 u21 u22 u23 u24 u25 u26 u27 u28 u99 J
      show wpOp Try.prog _ _ 10 _ _ w1
      have f9 := he _ rfl ⟨9, .data⟩ (by simp) rfl
      obtain rfl : u12 = .slice F.ao D.outs.length F.co := J.ev 9 f9 rfl rfl
      have hs := J.s
      clear he
      refine wpOp_of rfl rfl (fun K hK => ?_)
      go_simp
      go_wp2_with (go_at_call 36; refine (clone_int _ D.outs _ w1 hs.i.o (HL.out.outs)).mono ?_; rintro e w2 ⟨v', rfl, r2, b2⟩)
      exact ⟨_, _, _, _, _, _, _, _, _, _, _, _, _, _, _, _, _, _, _, _, _, _, _, _, _, _, _, rfl, J.put0 HST 10 hf rfl (only_of b2) (rwv_of r2 hs.room hs.bel.size) (hs.on b2)⟩
    · intro f a w1 hf he hI
      refine ex27 hI (G := fun a => wpOp Try.prog _ _ 11 _ a w1) ?_
      clear hI
      intro u3 u4 u5 u6 u7 u8 u9 u10 u11 u12 u13 u14 u15 u16 u17 u18 u19 u20 u21 u22 u23 u24 u25 u26 u27 u28 u99 J
      show wpOp Try.prog _ _ 11 _ _ w1
      have hs := J.s
      clear he
      refine wpOp_of rfl rfl (fun K hK => ?_)
      go_simp
      exact hK _ _ ⟨_, _, _, _, _, _, _, _, _, _, _, _, _, _, _, _, _, _, _, _, _, _, _, _, _, _, _, rfl, J.put0 HST 11 hf rfl (only_refl _ _) rfl hs⟩
    · intro f a w1 hf he hI
      refine ex27 hI (G := fun a => wpOp Try.prog _ _ 12 _ a w1) ?_
      clear hI
      intro u3 u4 u5 u6 u7 u8 u9 u10 u11 u12 u13 u14 u15 u16 u17 u18 u19 u20 u21 u22 u23 u24 u25 u26 u27 u28 u99 J
      show wpOp Try.prog _ _ 12 _ _ w1
      have f11 := he _ rfl ⟨11, .data⟩ (by simp) rfl
      obtain rfl : u14 = .pointer (some ⟨X, 4, none⟩) := J.ev 11 f11 rfl rfl
      have hs := J.s
      clear he
      have k4 := (hs.x.cell 4).1
      skip
      have lX := hs.x.lt
      refine wpOp_of rfl rfl (fun K hK => ?_)
      go_simp
      exact hK _ _ ⟨_, _, _, _, _, _, _, _, _, _, _, _, _, _, _, _, _, _, _, _, _, _, _, _, _, _, _, rfl, J.put0 HST 12 hf rfl (only_refl _ _) rfl hs⟩
    · intro f a w1 hf he hI
      refine ex27 hI (G := fun a => wpOp Try.prog _ _ 13 _ a w1) ?_
      clear hI
      intro u3 u4 u5 u6 u7 u8 u9 u10 u11 u12 u13 u14 u15 u16 u17 u18 u19 u20 u21 u22 u23 u24 u25 u26 u27 u28 u99 J
      show wpOp Try.prog _ _ 13 _ _ w1
      have f12 := he _ rfl ⟨12, .data⟩ (by simp) rfl
      obtain rfl : u15 = .slice F.ab D.bads.length F.cb := J.ev 12 f12 rfl rfl
      have hs := J.s
      clear he
      refine wpOp_of rfl rfl (fun K hK => ?_)
      go_simp
      go_wp2_with (go_at_call 36; refine (clone_int _ D.bads _ w1 hs.i.b (HL.out.bads)).mono ?_; rintro e w2 ⟨v', rfl, r2, b2⟩)
      exact ⟨_, _, _, _, _, _, _, _, _, _, _, _, _, _, _, _, _, _, _, _, _, _, _, _, _, _, _, rfl, J.put0 HST 13 hf rfl (only_of b2) (rwv_of r2 hs.room hs.bel.size) (hs.on b2)⟩
    · intro f a w1 hf he hI
      refine ex27 hI (G := fun a => wpOp Try.prog _ _ 14 _ a w1) ?_
      clear hI
      intro u3 u4 u5 u6 u7 u8 u9 u10 u11 u12 u13 u14 u15 u16 u17 u18 u19 u20 u21 u22 u23 u24 u25 u26 u27 u28 u99 J
      show wpOp Try.prog _ _ 14 _ _ w1
      have hs := J.s
      clear he
      refine wpOp_of rfl rfl (fun K hK => ?_)
      go_simp
      exact hK _ _ ⟨_, _, _, _, _, _, _, _, _, _, _, _, _, _, _, _, _, _, _, _, _, _, _, _, _, _, _, rfl, J.put0 HST 14 hf rfl (only_refl _ _) rfl hs⟩
    · intro f a w1 hf he hI
      refine ex27 hI (G := fun a => wpOp Try.prog _ _ 15 _ a w1) ?_
      clear hI
      intro u3 u4 u5 u6 u7 u8 u9 u10 u11 u12 u13 u14 u15 u16 u17 u18 u19 u20 u21 u22 u23 u24 u25 u26 u27 u28 u99 J
      show wpOp Try.prog _ _ 15 _ _ w1
      have f14 := he _ rfl ⟨14, .data⟩ (by simp) rfl
      obtain rfl : u17 = .pointer (some ⟨X, 5, none⟩) := J.ev 14 f14 rfl rfl
      have hs := J.s
      clear he
      have k5 := (hs.x.cell 5).1
      skip
      have lX := hs.x.lt
      refine wpOp_of rfl rfl (fun K hK => ?_)
      go_simp
      exact hK _ _ ⟨_, _, _, _, _, _, _, _, _, _, _, _, _, _, _, _, _, _, _, _, _, _, _, _, _, _, _, rfl, J.put0 HST 15 hf rfl (only_refl _ _) rfl hs⟩
    · intro f a w1 hf he hI
      refine ex27 hI (G := fun a => wpOp Try.prog _ _ 16 _ a w1) ?_
      clear hI
      intro u3 u4 u5 u6 u7 u8 u9 u10 u11 u12 u13 u14 u15 u16 u17 u18 u19 u20 u21 u22 u23 u24 u25 u26 u27 u28 u99 J
      show wpOp Try.prog _ _ 16 _ _ w1
      have f15 := he _ rfl ⟨15, .data⟩ (by simp) rfl
      obtain rfl : u18 = .slice F.ac D.cons.length F.cc := J.ev 15 f15 rfl rfl
      have hs := J.s
      clear he
      refine wpOp_of rfl rfl (fun K hK => ?_)
      go_simp
      go_wp2_with (go_at_call 36; refine (clone_int _ D.cons _ w1 hs.i.c (HL.out.cons)).mono ?_; rintro e w2 ⟨v', rfl, r2, b2⟩)
      exact ⟨_, _, _, _, _, _, _, _, _, _, _, _, _, _, _, _, _, _, _, _, _, _, _, _, _, _, _, rfl, J.put0 HST 16 hf rfl (only_of b2) (rwv_of r2 hs.room hs.bel.size) (hs.on b2)⟩
    · intro f a w1 hf he hI
      refine ex27 hI (G := fun a => wpOp Try.prog _ _ 17 _ a w1) ?_
      clear hI
      intro u3 u4 u5 u6 u7 u8 u9 u10 u11 u12 u13 u14 u15 u16 u17 u18 u19 u20 u21 u22 u23 u24 u25 u26 u27 u28 u99 J
      show wpOp Try.prog _ _ 17 _ _ w1
      have hs := J.s
      clear he
      refine wpOp_of rfl rfl (fun K hK => ?_)
      go_simp
      exact hK _ _ ⟨_, _, _, _, _, _, _, _, _, _, _, _, _, _, _, _, _, _, _, _, _, _, _, _, _, _, _, rfl, J.put0 HST 17 hf rfl (only_refl _ _) rfl hs⟩
    · intro f a w1 hf he hI
      refine ex27 hI (G := fun a => wpOp Try.prog _ _ 18 _ a w1) ?_
      clear hI
      intro u3 u4 u5 u6 u7 u8 u9 u10 u11 u12 u13 u14 u15 u16 u17 u18 u19 u20 u21 u22 u23 u24 u25 u26 u27 u28 u99 J
      show wpOp Try.prog _ _ 18 _ _ w1
      have f17 := he _ rfl ⟨17, .data⟩ (by simp) rfl
      obtain rfl : u20 = .pointer (some ⟨X, 6, none⟩) := J.ev 17 f17 rfl rfl
      have hs := J.s
      clear he
      have k6 := (hs.x.cell 6).1
      skip
      have lX := hs.x.lt
      refine wpOp_of rfl rfl (fun K hK => ?_)
      go_simp
      exact hK _ _ ⟨_, _, _, _, _, _, _, _, _, _, _, _, _, _, _, _, _, _, _, _, _, _, _, _, _, _, _, rfl, J.put0 HST 18 hf rfl (only_refl _ _) rfl hs⟩
    · intro f a w1 hf he hI
      refine ex27 hI (G := fun a => wpOp Try.prog _ _ 19 _ a w1) ?_
      clear hI
      intro u3 u4 u5 u6 u7 u8 u9 u10 u11 u12 u13 u14 u15 u16 u17 u18 u19 u20 u21 u22 u23 u24 u25 u26 u27 u28 u99 J
      show wpOp Try.prog _ _ 19 _ _ w1
      have f18 := he _ rfl ⟨18, .data⟩ (by simp) rfl
      obtain rfl : u21 = .slice F.ag D.gates.length F.cg := J.ev 18 f18 rfl rfl
      have hs := J.s
      clear he
      refine wpOp_of rfl rfl (fun K hK => ?_)
      go_simp
      go_wp2_with (go_at_call 38; refine (clone_gate _ D.gates _ w1 hs.i.g (HL.out.gates)).mono ?_; rintro e w2 ⟨v', rfl, r2, b2⟩)
      exact ⟨_, _, _, _, _, _, _, _, _, _, _, _, _, _, _, _, _, _, _, _, _, _, _, _, _, _, _, rfl, J.put0 HST 19 hf rfl (only_of b2) (rwv_of r2 hs.room hs.bel.size) (hs.on b2)⟩
    · intro f a w1 hf he hI
      refine ex27 hI (G := fun a => wpOp Try.prog _ _ 20 _ a w1) ?_
      clear hI
      intro u3 u4 u5 u6 u7 u8 u9 u10 u11 u12 u13 u14 u15 u16 u17 u18 u19 u20 u21 u22 u23 u24 u25 u26 u27 u28 u99 J
      show wpOp Try.prog _ _ 20 _ _ w1
      have hs := J.s
      clear he
      refine wpOp_of rfl rfl (fun K hK => ?_)
      go_simp
      exact hK _ _ ⟨_, _, _, _, _, _, _, _, _, _, _, _, _, _, _, _, _, _, _, _, _, _, _, _, _, _, _, rfl, J.put0 HST 20 hf rfl (only_refl _ _) rfl hs⟩
    · intro f a w1 hf he hI
      refine ex27 hI (G := fun a => wpOp Try.prog _ _ 21 _ a w1) ?_
      clear hI
      intro u3 u4 u5 u6 u7 u8 u9 u10 u11 u12 u13 u14 u15 u16 u17 u18 u19 u20 u21 u22 u23 u24 u25 u26 u27 u28 u99 J
      show wpOp Try.prog _ _ 21 _ _ w1
      have f20 := he _ rfl ⟨20, .data⟩ (by simp) rfl
      obtain rfl : u23 = .pointer (some ⟨X, 7, none⟩) := J.ev 20 f20 rfl rfl
      have hs := J.s
      clear he
      have k7 := (hs.x.cell 7).1
      skip
      have lX := hs.x.lt
      refine wpOp_of rfl rfl (fun K hK => ?_)
      go_simp
      exact hK _ _ ⟨_, _, _, _, _, _, _, _, _, _, _, _, _, _, _, _, _, _, _, _, _, _, _, _, _, _, _, rfl, J.put0 HST 21 hf rfl (only_refl _ _) rfl hs⟩
    · intro f a w1 hf he hI
      refine ex27 hI (G := fun a => wpOp Try.prog _ _ 22 _ a w1) ?_
      clear hI
      intro u3 u4 u5 u6 u7 u8 u9 u10 u11 u12 u13 u14 u15 u16 u17 u18 u19 u20 u21 u22 u23 u24 u25 u26 u27 u28 u99 J
      show wpOp Try.prog _ _ 22 _ _ w1
      have f21 := he _ rfl ⟨21, .data⟩ (by simp) rfl
      obtain rfl : u24 = .slice F.as_ D.syms.length F.cs := J.ev 21 f21 rfl rfl
      have hs := J.s
      clear he
      refine wpOp_of rfl rfl (fun K hK => ?_)
      go_simp
      go_wp2_with (go_at_call 39; refine (clone_sym _ D.syms _ w1 hs.i.s (HL.out.syms)).mono ?_; rintro e w2 ⟨v', rfl, r2, b2⟩)
      exact ⟨_, _, _, _, _, _, _, _, _, _, _, _, _, _, _, _, _, _, _, _, _, _, _, _, _, _, _, rfl, J.put0 HST 22 hf rfl (only_of b2) (rwv_of r2 hs.room hs.bel.size) (hs.on b2)⟩
    · intro f a w1 hf he hI
      refine ex27 hI (G := fun a => wpOp Try.prog _ _ 23 _ a w1) ?_
      clear hI
      intro u3 u4 u5 u6 u7 u8 u9 u10 u11 u12 u13 u14 u15 u16 u17 u18 u19 u20 u21 u22 u23 u24 u25 u26 u27 u28 u99 J
      show wpOp Try.prog _ _ 23 _ _ w1
      have hs := J.s
      clear he
      refine wpOp_of rfl rfl (fun K hK => ?_)
      go_simp
      exact hK _ _ ⟨_, _, _, _, _, _, _, _, _, _, _, _, _, _, _, _, _, _, _, _, _, _, _, _, _, _, _, rfl, J.put0 HST 23 hf rfl (only_refl _ _) rfl hs⟩
    · intro f a w1 hf he hI
      refine ex27 hI (G := fun a => wpOp Try.prog _ _ 24 _ a w1) ?_
      clear hI
      intro u3 u4 u5 u6 u7 u8 u9 u10 u11 u12 u13 u14 u15 u16 u17 u18 u19 u20 u21 u22 u23 u24 u25 u26 u27 u28 u99 J
      show wpOp Try.prog _ _ 24 _ _ w1
      have f23 := he _ rfl ⟨23, .data⟩ (by simp) rfl
      obtain rfl : u26 = .pointer (some ⟨X, 8, none⟩) := J.ev 23 f23 rfl rfl
      have hs := J.s
      clear he
      have k8 := (hs.x.cell 8).1
      skip
      have lX := hs.x.lt
      refine wpOp_of rfl rfl (fun K hK => ?_)
      go_simp
      exact hK _ _ ⟨_, _, _, _, _, _, _, _, _, _, _, _, _, _, _, _, _, _, _, _, _, _, _, _, _, _, _, rfl, J.put0 HST 24 hf rfl (only_refl _ _) rfl hs⟩
    · intro f a w1 hf he hI
      refine ex27 hI (G := fun a => wpOp Try.prog _ _ 25 _ a w1) ?_
      clear hI
      intro u3 u4 u5 u6 u7 u8 u9 u10 u11 u12 u13 u14 u15 u16 u17 u18 u19 u20 u21 u22 u23 u24 u25 u26 u27 u28 u99 J
      show wpOp Try.prog _ _ 25 _ _ w1
      have f1 := he _ rfl ⟨1, .data⟩ (by simp) rfl
      obtain rfl : u4 = .int .i64 D.max := J.ev 1 f1 rfl rfl
      have f4 := he _ rfl ⟨4, .data⟩ (by simp) rfl
      have f7 := he _ rfl ⟨7, .data⟩ (by simp) rfl
      have f10 := he _ rfl ⟨10, .data⟩ (by simp) rfl
      have f13 := he _ rfl ⟨13, .data⟩ (by simp) rfl
      have f16 := he _ rfl ⟨16, .data⟩ (by simp) rfl
      have f19 := he _ rfl ⟨19, .data⟩ (by simp) rfl
      have f22 := he _ rfl ⟨22, .data⟩ (by simp) rfl
      have f24 := he _ rfl ⟨24, .data⟩ (by simp) rfl
      obtain rfl : u27 = .string D.com := J.ev 24 f24 rfl rfl
      have hs := J.s
      clear he
      obtain ⟨lo1, hi1, ⟨p1, q1, rfl, h1⟩, -⟩ := J.get 4 f4 (P := RwV w0.heap.size X (enc1) 1 D.ins) (u := u7) rfl rfl
      obtain ⟨lo2, hi2, ⟨p2, q2, rfl, h2⟩, -⟩ := J.get 7 f7 (P := RwV w0.heap.size X (enc3) 3 D.lats) (u := u10) rfl rfl
      obtain ⟨lo3, hi3, ⟨p3, q3, rfl, h3⟩, -⟩ := J.get 10 f10 (P := RwV w0.heap.size X (enc1) 1 D.outs) (u := u13) rfl rfl
      obtain ⟨lo4, hi4, ⟨p4, q4, rfl, h4⟩, -⟩ := J.get 13 f13 (P := RwV w0.heap.size X (enc1) 1 D.bads) (u := u16) rfl rfl
      obtain ⟨lo5, hi5, ⟨p5, q5, rfl, h5⟩, -⟩ := J.get 16 f16 (P := RwV w0.heap.size X (enc1) 1 D.cons) (u := u19) rfl rfl
      obtain ⟨lo6, hi6, ⟨p6, q6, rfl, h6⟩, -⟩ := J.get 19 f19 (P := RwV w0.heap.size X (enc3) 3 D.gates) (u := u22) rfl rfl
      obtain ⟨lo7, hi7, ⟨p7, q7, rfl, h7⟩, -⟩ := J.get 22 f22 (P := RwV w0.heap.size X (encS) 3 D.syms) (u := u25) rfl rfl
      have HAG := Lib.hid (agg_of w1.heap.size w1.heap.size h1 h2 h3 h4 h5 h6 h7)
      clear h1 h2 h3 h4 h5 h6 h7
      refine wpOp_of rfl rfl (fun K hK => ?_)
      go_simp
      exact hK _ _ ⟨_, _, _, _, _, _, _, _, _, _, _, _, _, _, _, _, _, _, _, _, _, _, _, _, _, _, _, rfl, J.put0 HST 25 hf rfl (only_refl _ _) HAG.out hs⟩
    · intro f a w1 hf he hI
      refine ex27 hI (G := fun a => wpOp Try.prog _ _ 26 _ a w1) ?_
      clear hI
      intro u3 u4 u5 u6 u7 u8 u9 u10 u11 u12 u13 u14 u15 u16 u17 u18 u19 u20 u21 u22 u23 u24 u25 u26 u27 u28 u99 J
      show wpOp Try.prog _ _ 26 _ _ w1
      have f25 := he _ rfl ⟨25, .data⟩ (by simp) rfl
      have hs := J.s
      clear he
      obtain ⟨lo, hi, ⟨⟨p1, q1, p2, q2, p3, q3, p4, q4, p5, q5, p6, q6, p7, q7⟩, rfl, hin⟩, -⟩ := J.get 25 f25 (P := AggC w0.heap.size X D) (u := u28) rfl rfl
      have HIN := Lib.hid hin
      obtain ⟨y0, y1, y2, y3, y4, y5, y6, y7, y8, hr⟩ := hs.r
      have r0 : w1.cell? ⟨X + 1, 0, none⟩ = some y0 := (hr.cell 0).1
      have f0_ : w1.frozen? ⟨X + 1, 0, none⟩ = false := (hr.cell 0).2
      have r1 : w1.cell? ⟨X + 1, 1, none⟩ = some y1 := (hr.cell 1).1
      have f1_ : w1.frozen? ⟨X + 1, 1, none⟩ = false := (hr.cell 1).2
      have r2 : w1.cell? ⟨X + 1, 2, none⟩ = some y2 := (hr.cell 2).1
      have f2_ : w1.frozen? ⟨X + 1, 2, none⟩ = false := (hr.cell 2).2
      have r3 : w1.cell? ⟨X + 1, 3, none⟩ = some y3 := (hr.cell 3).1
      have f3_ : w1.frozen? ⟨X + 1, 3, none⟩ = false := (hr.cell 3).2
      have r4 : w1.cell? ⟨X + 1, 4, none⟩ = some y4 := (hr.cell 4).1
      have f4_ : w1.frozen? ⟨X + 1, 4, none⟩ = false := (hr.cell 4).2
      have r5 : w1.cell? ⟨X + 1, 5, none⟩ = some y5 := (hr.cell 5).1
      have f5_ : w1.frozen? ⟨X + 1, 5, none⟩ = false := (hr.cell 5).2
      have r6 : w1.cell? ⟨X + 1, 6, none⟩ = some y6 := (hr.cell 6).1
      have f6_ : w1.frozen? ⟨X + 1, 6, none⟩ = false := (hr.cell 6).2
      have r7 : w1.cell? ⟨X + 1, 7, none⟩ = some y7 := (hr.cell 7).1
      have f7_ : w1.frozen? ⟨X + 1, 7, none⟩ = false := (hr.cell 7).2
      have r8 : w1.cell? ⟨X + 1, 8, none⟩ = some y8 := (hr.cell 8).1
      have f8_ : w1.frozen? ⟨X + 1, 8, none⟩ = false := (hr.cell 8).2
      have lR := hr.lt
      have HR := Lib.hid hr
      clear hin hr
      refine wpOp_of rfl rfl (fun K hK => ?_)
      go_simp
      have HDN := Lib.hid (done_of HR.out HIN.out)
      have HSN := Lib.hid (hs.nine HR.out (.int .i64 D.max) (.slice p1 D.ins.length q1) (.slice p2 D.lats.length q2) (.slice p3 D.outs.length q3) (.slice p4 D.bads.length q4) (.slice p5 D.cons.length q5) (.slice p6 D.gates.length q6) (.slice p7 D.syms.length q7) (.string D.com))
      have HON := Lib.hid (nine_only w1 (X + 1) (.int .i64 D.max) (.slice p1 D.ins.length q1) (.slice p2 D.lats.length q2) (.slice p3 D.outs.length q3) (.slice p4 D.bads.length q4) (.slice p5 D.cons.length q5) (.slice p6 D.gates.length q6) (.slice p7 D.syms.length q7) (.string D.com))
      refine hK _ _ ?_
      clear hK
      obtain ⟨wz, hwz⟩ : ∃ wz, wz = (((((((((w1.setCell ⟨X + 1, 0, none⟩ (.int .i64 D.max)).setCell ⟨X + 1, 1, none⟩ (.slice p1 D.ins.length q1)).setCell ⟨X + 1, 2, none⟩ (.slice p2 D.lats.length q2)).setCell ⟨X + 1, 3, none⟩ (.slice p3 D.outs.length q3)).setCell ⟨X + 1, 4, none⟩ (.slice p4 D.bads.length q4)).setCell ⟨X + 1, 5, none⟩ (.slice p5 D.cons.length q5)).setCell ⟨X + 1, 6, none⟩ (.slice p6 D.gates.length q6)).setCell ⟨X + 1, 7, none⟩ (.slice p7 D.syms.length q7)).setCell ⟨X + 1, 8, none⟩ (.string D.com)) := ⟨_, rfl⟩
      rw [← hwz] at HDN HSN HON ⊢
      clear hwz
      exact ⟨_, _, _, _, _, _, _, _, _, _, _, _, _, _, _, _, _, _, _, _, _, _, _, _, _, _, _, rfl, J.put 26 HST26 hf rfl (v := undef) HON.out (HDN.out _ _ _) HSN.out⟩
  · intro f a w1 hall hI
    obtain ⟨u3, u4, u5, u6, u7, u8, u9, u10, u11, u12, u13, u14, u15, u16, u17, u18, u19, u20, u21, u22, u23, u24, u25, u26, u27, u28, u99, rfl, J⟩ := hI
    obtain ⟨lo, hi, hpt, -⟩ := J.get 26 (hall 26 (by decide)) (P := DoneC w0.heap.size X D) (u := u99) rfl rfl
    have hs := J.s
    clear J hall
    obtain ⟨⟨p1, q1, p2, q2, p3, q3, p4, q4, p5, q5, p6, q6, p7, q7⟩, K, hin⟩ := hpt
    have HIN := Lib.hid hin
    have HS2 := Lib.hid hs.bel
    clear hs hin
    have z0 : w1.cell? ⟨X + 1, 0, none⟩ = some (.int .i64 D.max) := (K.cell 0).1
    have z1 : w1.cell? ⟨X + 1, 1, none⟩ = some (.slice p1 D.ins.length q1) := (K.cell 1).1
    have z2 : w1.cell? ⟨X + 1, 2, none⟩ = some (.slice p2 D.lats.length q2) := (K.cell 2).1
    have z3 : w1.cell? ⟨X + 1, 3, none⟩ = some (.slice p3 D.outs.length q3) := (K.cell 3).1
    have z4 : w1.cell? ⟨X + 1, 4, none⟩ = some (.slice p4 D.bads.length q4) := (K.cell 4).1
    have z5 : w1.cell? ⟨X + 1, 5, none⟩ = some (.slice p5 D.cons.length q5) := (K.cell 5).1
    have z6 : w1.cell? ⟨X + 1, 6, none⟩ = some (.slice p6 D.gates.length q6) := (K.cell 6).1
    have z7 : w1.cell? ⟨X + 1, 7, none⟩ = some (.slice p7 D.syms.length q7) := (K.cell 7).1
    have z8 : w1.cell? ⟨X + 1, 8, none⟩ = some (.string D.com) := (K.cell 8).1
    clear K
    go_wp2_with fail
    refine bodyPost_ret (v := .agg #[.int .i64 D.max, .slice p1 D.ins.length q1, .slice p2 D.lats.length q2, .slice p3 D.outs.length q3, .slice p4 D.bads.length q4, .slice p5 D.cons.length q5, .slice p6 D.gates.length q6, .slice p7 D.syms.length q7, .string D.com]) (by simp [results, Try.results20, go_sem, z0, z1, z2, z3, z4, z5, z6, z7, z8]) rfl ?_
    exact ⟨⟨p1, q1, p2, q2, p3, q3, p4, q4, p5, q5, p6, q6, p7, q7⟩, rfl, HIN.out, HS2.out⟩
end Go.Proofs.Ytbpjflghkkkenaa.row
