import Derived.Test.YtbpjflghkkkenaaMg11
import Derived.Test.YtbpjflghkkkenaaMg9
import Derived.Test.YtbpjflghkkkenaaMg5
import Derived.Laws.CopyOwn
import Derived.Deep.RegionLaw
import Derived.IntWalk
import Derived.StillTail
import Derived.StillTailTactics
/- Predicates as closures: what one answers, what it leaves alone; IndexFunc, ContainsFunc, every. (Printed by mkZa.py.) -/
namespace Go.Proofs.Ytbpjflghkkkenaa.row
set_option maxRecDepth 100000
open Go.RowKit
open Go.Proofs.Ytbpjflghkkkenaa.aig (Only)
open Go.Proofs.Ytbpjflghkkkenaa.ints (retB)

theorem only_tr {P : Nat → Prop} {a b c : World} (h : Only P a b) (k : Only P b c) : Only P a c :=
  ⟨k.os.trans h.os, k.tape.trans h.tape, k.output.trans h.output, Nat.le_trans h.size k.size, fun i hi hn => (k.block i (Nat.lt_of_lt_of_le hi h.size) hn).trans (h.block i hi hn)⟩
theorem only_of {P : Nat → Prop} {w w' : World} (h : Below w.heap.size w w') : Only P w w' := ⟨h.os, h.tape, h.output, h.size, fun k hk _ => h.block k hk⟩
theorem only_refl (P : Nat → Prop) (w : World) : Only P w w := ⟨rfl, rfl, rfl, Nat.le_refl _, fun _ _ _ => rfl⟩
theorem Rw.only {α : Type} {enc : α → List Value} {sz : Nat} {P : Nat → Prop} {w w' : World} {v : Value} {xs : List α} (h : Rw enc sz P w v xs) (o : Only P w w') : Rw enc sz P w' v xs := h.same o.size o.block
theorem InC.only {P : Nat → Prop} {w w' : World} {D : CD} {F : CF} (h : InC P w D F) (o : Only P w w') : InC P w' D F := h.same o.size o.block
theorem Blk.only {P : Nat → Prop} {w w' : World} {X : Nat} {cs : Array Value} (h : Blk w X cs) (hX : ¬ P X) (o : Only P w w') : Blk w' X cs := by
  have hl := h.lt
  obtain ⟨t, h⟩ := h
  exact ⟨t, (o.block X hl hX).trans h⟩
/-- a closure that tells something of each thing: what it answers, and what its state is behind it -/
structure Acts {σ α : Type} (P : Nat → Prop) (K : Nat) (caps : Array Value) (arg : α → Value) (R : σ → World → Prop) (dom : α → Prop) (f : σ → α → Bool × σ) : Prop where
  on : ∀ s w w', R s w → Below w.heap.size w w' → R s w'
  enter : ∀ (args : Array Value) (w : World), (callFunc K args).run Try.prog w = .ok (.enter K args) w
  run : ∀ s x w, R s w → dom x → Calls Try.prog K (#[arg x] ++ caps) w fun e w' => e = .returned (.bool (f s x).1) ∧ R (f s x).2 w' ∧ Only P w w'
abbrev fval (K : Nat) (caps : Array Value) : Value := .func (.func K) #[] caps
section
variable {σ α β : Type}
theorem Acts.of {P : Nat → Prop} {K : Nat} {caps : Array Value} {arg : α → Value} {R : σ → World → Prop} {dom : α → Prop} {f : σ → α → Bool × σ} (h : Acts P K caps arg R dom f) (s s' : σ) (x : α) (b : Bool) (e : f s x = (b, s')) (w : World) (hr : R s w) (hd : dom x) :
    Calls Try.prog K (#[arg x] ++ caps) w fun e w' => e = .returned (.bool b) ∧ R s' w' ∧ Only P w w' := by
  have := h.run s x w hr hd
  rw [e] at this
  exact this
/-- of each thing, one after the other, until one is not so -/
def allS (f : σ → α → Bool × σ) (s : σ) : List α → Bool × σ
  | [] => (true, s)
  | x :: xs => if (f s x).1 = true then allS f (f s x).2 xs else (false, (f s x).2)
/-- the place of the first one that is so -/
def idxS (g : σ → α → Bool × σ) (s : σ) : List α → Nat → Int × σ
  | [], _ => (-1, s)
  | x :: xs, i => if (g s x).1 = true then ((i : Int), (g s x).2) else idxS g (g s x).2 xs (i + 1)
theorem allS_cons (f : σ → α → Bool × σ) (s : σ) (x : α) (xs : List α) : allS f s (x :: xs) = if (f s x).1 = true then allS f (f s x).2 xs else (false, (f s x).2) := rfl
theorem idxS_cons (g : σ → α → Bool × σ) (s : σ) (x : α) (xs : List α) (i : Nat) : idxS g s (x :: xs) i = if (g s x).1 = true then ((i : Int), (g s x).2) else idxS g (g s x).2 xs (i + 1) := rfl
def notS (f : σ → α → Bool × σ) : σ → α → Bool × σ := fun s x => (!(f s x).1, (f s x).2)
theorem idx_not (f : σ → α → Bool × σ) : ∀ (xs : List α) (s : σ) (i : Nat), decide ((idxS (notS f) s xs i).1 ≥ 0) = !(allS f s xs).1 ∧ (idxS (notS f) s xs i).2 = (allS f s xs).2 := by
  intro xs
  induction xs with
  | nil => intro s i; simp [idxS, allS]
  | cons x xs ih =>
    intro s i
    have e1 : (notS f s x).1 = !(f s x).1 := rfl
    have e2 : (notS f s x).2 = (f s x).2 := rfl
    rw [idxS_cons, allS_cons, e1, e2]
    cases h : (f s x).1 with
    | true => exact ih (f s x).2 (i + 1)
    | false => simp
theorem allS_app (f : σ → α → Bool × σ) : ∀ (xs ys : List α) (s : σ), allS f s (xs ++ ys) = if (allS f s xs).1 = true then allS f (allS f s xs).2 ys else (false, (allS f s xs).2) := by
  intro xs
  induction xs with
  | nil => intro ys s; simp [allS]
  | cons x xs ih =>
    intro ys s
    rw [List.cons_append, allS_cons, allS_cons]
    cases h : (f s x).1 with
    | true => simpa using ih ys (f s x).2
    | false => simp
theorem allS_map (f : σ → α → Bool × σ) (q : β → α) : ∀ (xs : List β) (s : σ), allS f s (xs.map q) = allS (fun s x => f s (q x)) s xs := by
  intro xs
  induction xs with
  | nil => intro s; rfl
  | cons x xs ih =>
    intro s
    rw [List.map_cons, allS_cons, allS_cons]
    cases h : (f s (q x)).1 with
    | true => simpa using ih (f s (q x)).2
    | false => simp
theorem drop_at {xs : List α} {k : Nat} {x : α} (h : xs[k]? = some x) : xs.drop k = x :: xs.drop (k + 1) := by
  obtain ⟨hk, rfl⟩ := List.getElem?_eq_some_iff.1 h
  exact List.drop_eq_getElem_cons hk
end

/-! ## int -/
set_option maxHeartbeats 1600000 in
theorem index_int {σ : Type} {P : Nat → Prop} {K : Nat} {caps : Array Value} {R : σ → World → Prop} {dom : Int → Prop} {g : σ → Int → Bool × σ} (h : Acts P K caps (Value.int .i64) R dom g)
    (v : Value) (xs : List Int) (w : World) (s : σ) (hv : Rw enc1 1 P w v xs) (hd : ∀ x ∈ xs, dom x) (hr : R s w) :
    Calls Try.prog 77 #[v, fval K caps] w fun e w' => e = .returned (.int .i64 (idxS g s xs 0).1) ∧ R (idxS g s xs 0).2 w' ∧ Only P w w' := by
  have H := Lib.hid h.of
  have hen := h.enter
  have HV := Lib.hid hv
  have HD := Lib.hid hd
  have HR := Lib.hid hr
  obtain ⟨a, cap, rfl, l1, l2, -⟩ := hv.form
  unfold maxLen at l2
  obtain ⟨n, hnn⟩ : ∃ n, n = xs.length := ⟨_, rfl⟩
  rw [← hnn] at l1 HV ⊢
  have HN := Lib.hid hnn
  clear h hv hd hr hnn
  go_enter Try.func77, Try.ntmps77
  go_wp2_with fail
  go_loopw [8] (fun i wr => ∃ (k : Nat) (s' : σ), k ≤ n ∧ i = .int .i64 k ∧ Hid (idxS g s xs 0 = idxS g s' (xs.drop k) k) ∧ Hid (R s' wr) ∧ Hid (Only P w wr)) (fun i _ => n - (intOf i).toNat)
  case atStart => exact ⟨0, s, Nat.zero_le _, rfl, Lib.hid rfl, HR, Lib.hid (only_refl P w)⟩
  case round =>
    obtain ⟨k, s', hk, rfl, HI, HR', HO⟩ := hrel
    obtain ⟨wo, rfl⟩ : ∃ wo : World, wo = wr := ⟨_, rfl⟩
    by_cases hlt : k < n
    · obtain ⟨x, hx⟩ : ∃ x, xs[k]? = some x := ⟨_, List.getElem?_eq_getElem (by rw [← HN.out]; exact hlt)⟩
      obtain ⟨b, off, rfl, hb, hc⟩ := (HV.out.only HO.out).at_ hx
      have c0 : wo.cell? ⟨b, off + k, none⟩ = some (.int .i64 x) := by have := hc 0 (.int .i64 x) rfl; simpa using this
      have d1 : (k : Int) < (n : Int) := by omega
      have d2 : 0 ≤ (k : Int) := by omega
      have HDX := Lib.hid (HD.out x (List.mem_iff_getElem?.2 ⟨k, hx⟩))
      have HDR := Lib.hid (drop_at hx)
      clear hc hx
      cases hg : g s' x with
      | mk bb s2 =>
        have HG := Lib.hid hg
        clear hg
        cases bb with
        | true =>
          have HE : Hid (idxS g s xs 0 = ((k : Int), s2)) := Lib.hid (by rw [HI.out, HDR.out, idxS_cons, HG.out]; simp)
          go_wp2_with fail
          refine (H.out _ _ _ _ HG.out _ HR'.out HDX.out).mono ?_; rintro e w1 ⟨rfl, r1, o1⟩
          have HR1 := Lib.hid r1
          have HO1 := Lib.hid (only_tr HO.out o1)
          clear r1 o1
          go_wp2_with fail
          go_ret
          rw [HE.out]; exact ⟨rfl, HR1.out, HO1.out⟩
        | false =>
          have HE : Hid (idxS g s xs 0 = idxS g s2 (xs.drop (k + 1)) (k + 1)) := Lib.hid (by rw [HI.out, HDR.out, idxS_cons, HG.out]; simp)
          go_wp2_with fail
          refine (H.out _ _ _ _ HG.out _ HR'.out HDX.out).mono ?_; rintro e w1 ⟨rfl, r1, o1⟩
          have HR1 := Lib.hid r1
          have HO1 := Lib.hid (only_tr HO.out o1)
          clear r1 o1
          go_wp2_with fail
          go_roundw
          case rel => exact ⟨k + 1, s2, by omega, by go_num, HE, HR1, HO1⟩
          case measure => simp [intOf]; omega
    · obtain rfl : n = k := by omega
      have HE : Hid (idxS g s xs 0 = (-1, s')) := Lib.hid (by rw [HI.out, HN.out, List.drop_length]; rfl)
      clear hlt hk
      go_wp2_with fail
      go_ret
      rw [HE.out]; exact ⟨rfl, HR'.out, HO.out⟩
set_option maxHeartbeats 800000 in
theorem contains_int {σ : Type} {P : Nat → Prop} {K : Nat} {caps : Array Value} {R : σ → World → Prop} {dom : Int → Prop} {g : σ → Int → Bool × σ} (h : Acts P K caps (Value.int .i64) R dom g)
    (v : Value) (xs : List Int) (w : World) (s : σ) (hv : Rw enc1 1 P w v xs) (hd : ∀ x ∈ xs, dom x) (hr : R s w) :
    Calls Try.prog 69 #[v, fval K caps] w fun e w' => e = .returned (.bool (decide ((idxS g s xs 0).1 ≥ 0))) ∧ R (idxS g s xs 0).2 w' ∧ Only P w w' := by
  have H := Lib.hid (fun w (hv : Rw enc1 1 P w v xs) (hr : R s w) => index_int h v xs w s hv hd hr)
  have HV := Lib.hid hv
  have HR := Lib.hid hr
  obtain ⟨a, cap, rfl, -⟩ := hv.form
  clear h hv hd hr
  go_enter Try.func69, Try.ntmps69
  go_wp2_with fail
  go_at_call 77; refine (H.out _ HV.out HR.out).mono ?_; rintro e w1 ⟨rfl, r1, o1⟩
  have HX := Lib.hid (And.intro r1 o1)
  clear r1 o1
  go_wp2_with fail
  go_ret
  exact ⟨rfl, HX.out⟩
set_option maxHeartbeats 800000 in
/-- what every makes of its predicate -/
theorem not_int {σ : Type} {P : Nat → Prop} {K : Nat} {caps : Array Value} {R : σ → World → Prop} {dom : Int → Prop} {f : σ → Int → Bool × σ} (h : Acts P K caps (Value.int .i64) R dom f) (X : Nat) (hX : ¬ P X) :
    Acts P 70 #[.pointer (some ⟨X, 0, none⟩)] (Value.int .i64) (fun s w => R s w ∧ Blk w X #[fval K caps]) dom (notS f) := by
  refine ⟨fun s w w' hr hb => ⟨h.on s w w' hr.1 hb, hr.2.on hb⟩, fun _ _ => rfl, fun s x w hr hx => ?_⟩
  show Calls Try.prog 70 #[.int .i64 x, .pointer (some ⟨X, 0, none⟩)] w _
  have H := Lib.hid h
  have hen := h.enter
  have c0 : w.cell? ⟨X, 0, none⟩ = some (fval K caps) := (hr.2.cell 0).1
  have hXl := hr.2.lt
  have HR := Lib.hid hr
  have HD := Lib.hid hx
  have HP := Lib.hid hX
  clear h hr hx hX
  go_enter Try.func70, Try.ntmps70
  go_wp2_with fail
  refine (H.out.run s x _ HR.out.1 HD.out).mono ?_; rintro e w1 ⟨rfl, r1, o1⟩
  have HX := Lib.hid (And.intro (And.intro r1 (HR.out.2.only HP.out o1)) o1)
  clear r1 o1
  go_wp2_with fail
  go_ret
  exact ⟨rfl, HX.out⟩
set_option maxHeartbeats 800000 in
theorem every_int {σ : Type} {P : Nat → Prop} {K : Nat} {caps : Array Value} {R : σ → World → Prop} {dom : Int → Prop} {f : σ → Int → Bool × σ} (h : Acts P K caps (Value.int .i64) R dom f)
    (v : Value) (xs : List Int) (w : World) (s : σ) {b : Bool} {s2 : σ} (he : allS f s xs = (b, s2)) (hv : Rw enc1 1 P w v xs) (hd : ∀ x ∈ xs, dom x) (hr : R s w) (hP : ∀ k, P k → k < w.heap.size) :
    Calls Try.prog 55 #[v, fval K caps] w fun e w' => e = .returned (.bool b) ∧ R s2 w' ∧ Only P w w' := by
  have hb : Below w.heap.size w (w.alloc (.cells #[fval K caps] 68)) := (Below.refl _ _).alloc (Nat.le_refl _) _
  have ha := not_int h w.heap.size (fun e => absurd (hP _ e) (Nat.lt_irrefl _))
  have H := Lib.hid (contains_int ha v xs (w.alloc (.cells #[fval K caps] 68)) s (hv.on hb) hd ⟨h.on _ _ _ hr hb, blk_new w _ _⟩)
  have HE := Lib.hid (idx_not f xs s 0)
  have HE2 := Lib.hid he
  have HB : Hid (Only P w (w.alloc (.cells #[fval K caps] 68))) := Lib.hid (only_of hb)
  have hmf : ∀ (fn : Fn) (first cap : Array Value) (w : World), (Instr.makeFunc fn first cap).run Try.prog w = .ok (.func fn first cap) w := fun _ _ _ _ => rfl
  obtain ⟨a, cap, rfl, -⟩ := hv.form
  clear h hv hd hr he hb ha hP
  go_enter Try.func55, Try.ntmps55
  go_wp2_with fail
  go_at_call 69; refine H.out.mono ?_; rintro e w1 ⟨rfl, ⟨r1, -⟩, o1⟩
  rw [HE.out.1, HE2.out]
  rw [HE.out.2, HE2.out] at r1
  have HX := Lib.hid (And.intro r1 (only_tr HB.out o1))
  clear r1 o1
  go_wp2_with fail
  go_ret
  exact ⟨by simp, HX.out⟩

/-- a record of three ints, as a value -/
@[reducible] def val3 (t : Tri) : Value := .agg #[.int .i64 t.1, .int .i64 t.2.1, .int .i64 t.2.2]

/-! ## latch -/
set_option maxHeartbeats 1600000 in
theorem index_latch {σ : Type} {P : Nat → Prop} {K : Nat} {caps : Array Value} {R : σ → World → Prop} {dom : Tri → Prop} {g : σ → Tri → Bool × σ} (h : Acts P K caps val3 R dom g)
    (v : Value) (xs : List Tri) (w : World) (s : σ) (hv : Rw enc3 3 P w v xs) (hd : ∀ x ∈ xs, dom x) (hr : R s w) :
    Calls Try.prog 76 #[v, fval K caps] w fun e w' => e = .returned (.int .i64 (idxS g s xs 0).1) ∧ R (idxS g s xs 0).2 w' ∧ Only P w w' := by
  have H := Lib.hid h.of
  have hen := h.enter
  have HV := Lib.hid hv
  have HD := Lib.hid hd
  have HR := Lib.hid hr
  obtain ⟨a, cap, rfl, l1, l2, -⟩ := hv.form
  unfold maxLen at l2
  obtain ⟨n, hnn⟩ : ∃ n, n = xs.length := ⟨_, rfl⟩
  rw [← hnn] at l1 HV ⊢
  have HN := Lib.hid hnn
  clear h hv hd hr hnn
  go_enter Try.func76, Try.ntmps76
  go_wp2_with fail
  go_loopw [8] (fun i wr => ∃ (k : Nat) (s' : σ), k ≤ n ∧ i = .int .i64 k ∧ Hid (idxS g s xs 0 = idxS g s' (xs.drop k) k) ∧ Hid (R s' wr) ∧ Hid (Only P w wr)) (fun i _ => n - (intOf i).toNat)
  case atStart => exact ⟨0, s, Nat.zero_le _, rfl, Lib.hid rfl, HR, Lib.hid (only_refl P w)⟩
  case round =>
    obtain ⟨k, s', hk, rfl, HI, HR', HO⟩ := hrel
    obtain ⟨wo, rfl⟩ : ∃ wo : World, wo = wr := ⟨_, rfl⟩
    by_cases hlt : k < n
    · obtain ⟨x, hx⟩ : ∃ x, xs[k]? = some x := ⟨_, List.getElem?_eq_getElem (by rw [← HN.out]; exact hlt)⟩
      obtain ⟨b, off, rfl, hb, hc⟩ := (HV.out.only HO.out).at_ hx
      have c0 : wo.cell? ⟨b, off + k * 3, none⟩ = some (.int .i64 x.1) := by have := hc 0 (.int .i64 x.1) rfl; simpa using this
      have c1 : wo.cell? ⟨b, off + k * 3 + 1, none⟩ = some (.int .i64 x.2.1) := hc 1 (.int .i64 x.2.1) rfl
      have c2 : wo.cell? ⟨b, off + k * 3 + 2, none⟩ = some (.int .i64 x.2.2) := hc 2 (.int .i64 x.2.2) rfl
      have d1 : (k : Int) < (n : Int) := by omega
      have d2 : 0 ≤ (k : Int) := by omega
      have HDX := Lib.hid (HD.out x (List.mem_iff_getElem?.2 ⟨k, hx⟩))
      have HDR := Lib.hid (drop_at hx)
      clear hc hx
      cases hg : g s' x with
      | mk bb s2 =>
        have HG := Lib.hid hg
        clear hg
        cases bb with
        | true =>
          have HE : Hid (idxS g s xs 0 = ((k : Int), s2)) := Lib.hid (by rw [HI.out, HDR.out, idxS_cons, HG.out]; simp)
          go_wp2_with fail
          refine (H.out _ _ _ _ HG.out _ HR'.out HDX.out).mono ?_; rintro e w1 ⟨rfl, r1, o1⟩
          have HR1 := Lib.hid r1
          have HO1 := Lib.hid (only_tr HO.out o1)
          clear r1 o1
          go_wp2_with fail
          go_ret
          rw [HE.out]; exact ⟨rfl, HR1.out, HO1.out⟩
        | false =>
          have HE : Hid (idxS g s xs 0 = idxS g s2 (xs.drop (k + 1)) (k + 1)) := Lib.hid (by rw [HI.out, HDR.out, idxS_cons, HG.out]; simp)
          go_wp2_with fail
          refine (H.out _ _ _ _ HG.out _ HR'.out HDX.out).mono ?_; rintro e w1 ⟨rfl, r1, o1⟩
          have HR1 := Lib.hid r1
          have HO1 := Lib.hid (only_tr HO.out o1)
          clear r1 o1
          go_wp2_with fail
          go_roundw
          case rel => exact ⟨k + 1, s2, by omega, by go_num, HE, HR1, HO1⟩
          case measure => simp [intOf]; omega
    · obtain rfl : n = k := by omega
      have HE : Hid (idxS g s xs 0 = (-1, s')) := Lib.hid (by rw [HI.out, HN.out, List.drop_length]; rfl)
      clear hlt hk
      go_wp2_with fail
      go_ret
      rw [HE.out]; exact ⟨rfl, HR'.out, HO.out⟩
set_option maxHeartbeats 800000 in
theorem contains_latch {σ : Type} {P : Nat → Prop} {K : Nat} {caps : Array Value} {R : σ → World → Prop} {dom : Tri → Prop} {g : σ → Tri → Bool × σ} (h : Acts P K caps val3 R dom g)
    (v : Value) (xs : List Tri) (w : World) (s : σ) (hv : Rw enc3 3 P w v xs) (hd : ∀ x ∈ xs, dom x) (hr : R s w) :
    Calls Try.prog 67 #[v, fval K caps] w fun e w' => e = .returned (.bool (decide ((idxS g s xs 0).1 ≥ 0))) ∧ R (idxS g s xs 0).2 w' ∧ Only P w w' := by
  have H := Lib.hid (fun w (hv : Rw enc3 3 P w v xs) (hr : R s w) => index_latch h v xs w s hv hd hr)
  have HV := Lib.hid hv
  have HR := Lib.hid hr
  obtain ⟨a, cap, rfl, -⟩ := hv.form
  clear h hv hd hr
  go_enter Try.func67, Try.ntmps67
  go_wp2_with fail
  go_at_call 76; refine (H.out _ HV.out HR.out).mono ?_; rintro e w1 ⟨rfl, r1, o1⟩
  have HX := Lib.hid (And.intro r1 o1)
  clear r1 o1
  go_wp2_with fail
  go_ret
  exact ⟨rfl, HX.out⟩
set_option maxHeartbeats 800000 in
/-- what every makes of its predicate -/
theorem not_latch {σ : Type} {P : Nat → Prop} {K : Nat} {caps : Array Value} {R : σ → World → Prop} {dom : Tri → Prop} {f : σ → Tri → Bool × σ} (h : Acts P K caps val3 R dom f) (X : Nat) (hX : ¬ P X) :
    Acts P 68 #[.pointer (some ⟨X, 0, none⟩)] val3 (fun s w => R s w ∧ Blk w X #[fval K caps]) dom (notS f) := by
  refine ⟨fun s w w' hr hb => ⟨h.on s w w' hr.1 hb, hr.2.on hb⟩, fun _ _ => rfl, fun s x w hr hx => ?_⟩
  show Calls Try.prog 68 #[.agg #[.int .i64 x.1, .int .i64 x.2.1, .int .i64 x.2.2], .pointer (some ⟨X, 0, none⟩)] w _
  have H := Lib.hid h
  have hen := h.enter
  have c0 : w.cell? ⟨X, 0, none⟩ = some (fval K caps) := (hr.2.cell 0).1
  have hXl := hr.2.lt
  have HR := Lib.hid hr
  have HD := Lib.hid hx
  have HP := Lib.hid hX
  clear h hr hx hX
  go_enter Try.func68, Try.ntmps68
  have hb : Below w.heap.size w (w.alloc (.cells #[.int .i64 x.1, .int .i64 x.2.1, .int .i64 x.2.2] 45)) := (Below.refl _ _).alloc (Nat.le_refl _) _
  have HR2 := Lib.hid (H.out.on _ _ _ HR.out.1 hb)
  have HB2 := Lib.hid (HR.out.2.on hb)
  have HO : Hid (Only P w (w.alloc (.cells #[.int .i64 x.1, .int .i64 x.2.1, .int .i64 x.2.2] 45))) := Lib.hid (only_of hb)
  clear hb
  go_wp2_with fail
  refine (H.out.run s x _ HR2.out HD.out).mono ?_; rintro e w1 ⟨rfl, r1, o1⟩
  have HX := Lib.hid (And.intro (And.intro r1 (HB2.out.only HP.out o1)) (only_tr HO.out o1))
  clear r1 o1
  go_wp2_with fail
  go_ret
  exact ⟨rfl, HX.out⟩
set_option maxHeartbeats 800000 in
theorem every_latch {σ : Type} {P : Nat → Prop} {K : Nat} {caps : Array Value} {R : σ → World → Prop} {dom : Tri → Prop} {f : σ → Tri → Bool × σ} (h : Acts P K caps val3 R dom f)
    (v : Value) (xs : List Tri) (w : World) (s : σ) {b : Bool} {s2 : σ} (he : allS f s xs = (b, s2)) (hv : Rw enc3 3 P w v xs) (hd : ∀ x ∈ xs, dom x) (hr : R s w) (hP : ∀ k, P k → k < w.heap.size) :
    Calls Try.prog 54 #[v, fval K caps] w fun e w' => e = .returned (.bool b) ∧ R s2 w' ∧ Only P w w' := by
  have hb : Below w.heap.size w (w.alloc (.cells #[fval K caps] 73)) := (Below.refl _ _).alloc (Nat.le_refl _) _
  have ha := not_latch h w.heap.size (fun e => absurd (hP _ e) (Nat.lt_irrefl _))
  have H := Lib.hid (contains_latch ha v xs (w.alloc (.cells #[fval K caps] 73)) s (hv.on hb) hd ⟨h.on _ _ _ hr hb, blk_new w _ _⟩)
  have HE := Lib.hid (idx_not f xs s 0)
  have HE2 := Lib.hid he
  have HB : Hid (Only P w (w.alloc (.cells #[fval K caps] 73))) := Lib.hid (only_of hb)
  have hmf : ∀ (fn : Fn) (first cap : Array Value) (w : World), (Instr.makeFunc fn first cap).run Try.prog w = .ok (.func fn first cap) w := fun _ _ _ _ => rfl
  obtain ⟨a, cap, rfl, -⟩ := hv.form
  clear h hv hd hr he hb ha hP
  go_enter Try.func54, Try.ntmps54
  go_wp2_with fail
  go_at_call 67; refine H.out.mono ?_; rintro e w1 ⟨rfl, ⟨r1, -⟩, o1⟩
  rw [HE.out.1, HE2.out]
  rw [HE.out.2, HE2.out] at r1
  have HX := Lib.hid (And.intro r1 (only_tr HB.out o1))
  clear r1 o1
  go_wp2_with fail
  go_ret
  exact ⟨by simp, HX.out⟩

/-! ## gate -/
set_option maxHeartbeats 1600000 in
theorem index_gate {σ : Type} {P : Nat → Prop} {K : Nat} {caps : Array Value} {R : σ → World → Prop} {dom : Tri → Prop} {g : σ → Tri → Bool × σ} (h : Acts P K caps val3 R dom g)
    (v : Value) (xs : List Tri) (w : World) (s : σ) (hv : Rw enc3 3 P w v xs) (hd : ∀ x ∈ xs, dom x) (hr : R s w) :
    Calls Try.prog 78 #[v, fval K caps] w fun e w' => e = .returned (.int .i64 (idxS g s xs 0).1) ∧ R (idxS g s xs 0).2 w' ∧ Only P w w' := by
  have H := Lib.hid h.of
  have hen := h.enter
  have HV := Lib.hid hv
  have HD := Lib.hid hd
  have HR := Lib.hid hr
  obtain ⟨a, cap, rfl, l1, l2, -⟩ := hv.form
  unfold maxLen at l2
  obtain ⟨n, hnn⟩ : ∃ n, n = xs.length := ⟨_, rfl⟩
  rw [← hnn] at l1 HV ⊢
  have HN := Lib.hid hnn
  clear h hv hd hr hnn
  go_enter Try.func78, Try.ntmps78
  go_wp2_with fail
  go_loopw [8] (fun i wr => ∃ (k : Nat) (s' : σ), k ≤ n ∧ i = .int .i64 k ∧ Hid (idxS g s xs 0 = idxS g s' (xs.drop k) k) ∧ Hid (R s' wr) ∧ Hid (Only P w wr)) (fun i _ => n - (intOf i).toNat)
  case atStart => exact ⟨0, s, Nat.zero_le _, rfl, Lib.hid rfl, HR, Lib.hid (only_refl P w)⟩
  case round =>
    obtain ⟨k, s', hk, rfl, HI, HR', HO⟩ := hrel
    obtain ⟨wo, rfl⟩ : ∃ wo : World, wo = wr := ⟨_, rfl⟩
    by_cases hlt : k < n
    · obtain ⟨x, hx⟩ : ∃ x, xs[k]? = some x := ⟨_, List.getElem?_eq_getElem (by rw [← HN.out]; exact hlt)⟩
      obtain ⟨b, off, rfl, hb, hc⟩ := (HV.out.only HO.out).at_ hx
      have c0 : wo.cell? ⟨b, off + k * 3, none⟩ = some (.int .i64 x.1) := by have := hc 0 (.int .i64 x.1) rfl; simpa using this
      have c1 : wo.cell? ⟨b, off + k * 3 + 1, none⟩ = some (.int .i64 x.2.1) := hc 1 (.int .i64 x.2.1) rfl
      have c2 : wo.cell? ⟨b, off + k * 3 + 2, none⟩ = some (.int .i64 x.2.2) := hc 2 (.int .i64 x.2.2) rfl
      have d1 : (k : Int) < (n : Int) := by omega
      have d2 : 0 ≤ (k : Int) := by omega
      have HDX := Lib.hid (HD.out x (List.mem_iff_getElem?.2 ⟨k, hx⟩))
      have HDR := Lib.hid (drop_at hx)
      clear hc hx
      cases hg : g s' x with
      | mk bb s2 =>
        have HG := Lib.hid hg
        clear hg
        cases bb with
        | true =>
          have HE : Hid (idxS g s xs 0 = ((k : Int), s2)) := Lib.hid (by rw [HI.out, HDR.out, idxS_cons, HG.out]; simp)
          go_wp2_with fail
          refine (H.out _ _ _ _ HG.out _ HR'.out HDX.out).mono ?_; rintro e w1 ⟨rfl, r1, o1⟩
          have HR1 := Lib.hid r1
          have HO1 := Lib.hid (only_tr HO.out o1)
          clear r1 o1
          go_wp2_with fail
          go_ret
          rw [HE.out]; exact ⟨rfl, HR1.out, HO1.out⟩
        | false =>
          have HE : Hid (idxS g s xs 0 = idxS g s2 (xs.drop (k + 1)) (k + 1)) := Lib.hid (by rw [HI.out, HDR.out, idxS_cons, HG.out]; simp)
          go_wp2_with fail
          refine (H.out _ _ _ _ HG.out _ HR'.out HDX.out).mono ?_; rintro e w1 ⟨rfl, r1, o1⟩
          have HR1 := Lib.hid r1
          have HO1 := Lib.hid (only_tr HO.out o1)
          clear r1 o1
          go_wp2_with fail
          go_roundw
          case rel => exact ⟨k + 1, s2, by omega, by go_num, HE, HR1, HO1⟩
          case measure => simp [intOf]; omega
    · obtain rfl : n = k := by omega
      have HE : Hid (idxS g s xs 0 = (-1, s')) := Lib.hid (by rw [HI.out, HN.out, List.drop_length]; rfl)
      clear hlt hk
      go_wp2_with fail
      go_ret
      rw [HE.out]; exact ⟨rfl, HR'.out, HO.out⟩
set_option maxHeartbeats 800000 in
theorem contains_gate {σ : Type} {P : Nat → Prop} {K : Nat} {caps : Array Value} {R : σ → World → Prop} {dom : Tri → Prop} {g : σ → Tri → Bool × σ} (h : Acts P K caps val3 R dom g)
    (v : Value) (xs : List Tri) (w : World) (s : σ) (hv : Rw enc3 3 P w v xs) (hd : ∀ x ∈ xs, dom x) (hr : R s w) :
    Calls Try.prog 71 #[v, fval K caps] w fun e w' => e = .returned (.bool (decide ((idxS g s xs 0).1 ≥ 0))) ∧ R (idxS g s xs 0).2 w' ∧ Only P w w' := by
  have H := Lib.hid (fun w (hv : Rw enc3 3 P w v xs) (hr : R s w) => index_gate h v xs w s hv hd hr)
  have HV := Lib.hid hv
  have HR := Lib.hid hr
  obtain ⟨a, cap, rfl, -⟩ := hv.form
  clear h hv hd hr
  go_enter Try.func71, Try.ntmps71
  go_wp2_with fail
  go_at_call 78; refine (H.out _ HV.out HR.out).mono ?_; rintro e w1 ⟨rfl, r1, o1⟩
  have HX := Lib.hid (And.intro r1 o1)
  clear r1 o1
  go_wp2_with fail
  go_ret
  exact ⟨rfl, HX.out⟩
set_option maxHeartbeats 800000 in
/-- what every makes of its predicate -/
theorem not_gate {σ : Type} {P : Nat → Prop} {K : Nat} {caps : Array Value} {R : σ → World → Prop} {dom : Tri → Prop} {f : σ → Tri → Bool × σ} (h : Acts P K caps val3 R dom f) (X : Nat) (hX : ¬ P X) :
    Acts P 72 #[.pointer (some ⟨X, 0, none⟩)] val3 (fun s w => R s w ∧ Blk w X #[fval K caps]) dom (notS f) := by
  refine ⟨fun s w w' hr hb => ⟨h.on s w w' hr.1 hb, hr.2.on hb⟩, fun _ _ => rfl, fun s x w hr hx => ?_⟩
  show Calls Try.prog 72 #[.agg #[.int .i64 x.1, .int .i64 x.2.1, .int .i64 x.2.2], .pointer (some ⟨X, 0, none⟩)] w _
  have H := Lib.hid h
  have hen := h.enter
  have c0 : w.cell? ⟨X, 0, none⟩ = some (fval K caps) := (hr.2.cell 0).1
  have hXl := hr.2.lt
  have HR := Lib.hid hr
  have HD := Lib.hid hx
  have HP := Lib.hid hX
  clear h hr hx hX
  go_enter Try.func72, Try.ntmps72
  have hb : Below w.heap.size w (w.alloc (.cells #[.int .i64 x.1, .int .i64 x.2.1, .int .i64 x.2.2] 47)) := (Below.refl _ _).alloc (Nat.le_refl _) _
  have HR2 := Lib.hid (H.out.on _ _ _ HR.out.1 hb)
  have HB2 := Lib.hid (HR.out.2.on hb)
  have HO : Hid (Only P w (w.alloc (.cells #[.int .i64 x.1, .int .i64 x.2.1, .int .i64 x.2.2] 47))) := Lib.hid (only_of hb)
  clear hb
  go_wp2_with fail
  refine (H.out.run s x _ HR2.out HD.out).mono ?_; rintro e w1 ⟨rfl, r1, o1⟩
  have HX := Lib.hid (And.intro (And.intro r1 (HB2.out.only HP.out o1)) (only_tr HO.out o1))
  clear r1 o1
  go_wp2_with fail
  go_ret
  exact ⟨rfl, HX.out⟩
set_option maxHeartbeats 800000 in
theorem every_gate {σ : Type} {P : Nat → Prop} {K : Nat} {caps : Array Value} {R : σ → World → Prop} {dom : Tri → Prop} {f : σ → Tri → Bool × σ} (h : Acts P K caps val3 R dom f)
    (v : Value) (xs : List Tri) (w : World) (s : σ) {b : Bool} {s2 : σ} (he : allS f s xs = (b, s2)) (hv : Rw enc3 3 P w v xs) (hd : ∀ x ∈ xs, dom x) (hr : R s w) (hP : ∀ k, P k → k < w.heap.size) :
    Calls Try.prog 57 #[v, fval K caps] w fun e w' => e = .returned (.bool b) ∧ R s2 w' ∧ Only P w w' := by
  have hb : Below w.heap.size w (w.alloc (.cells #[fval K caps] 77)) := (Below.refl _ _).alloc (Nat.le_refl _) _
  have ha := not_gate h w.heap.size (fun e => absurd (hP _ e) (Nat.lt_irrefl _))
  have H := Lib.hid (contains_gate ha v xs (w.alloc (.cells #[fval K caps] 77)) s (hv.on hb) hd ⟨h.on _ _ _ hr hb, blk_new w _ _⟩)
  have HE := Lib.hid (idx_not f xs s 0)
  have HE2 := Lib.hid he
  have HB : Hid (Only P w (w.alloc (.cells #[fval K caps] 77))) := Lib.hid (only_of hb)
  have hmf : ∀ (fn : Fn) (first cap : Array Value) (w : World), (Instr.makeFunc fn first cap).run Try.prog w = .ok (.func fn first cap) w := fun _ _ _ _ => rfl
  obtain ⟨a, cap, rfl, -⟩ := hv.form
  clear h hv hd hr he hb ha hP
  go_enter Try.func57, Try.ntmps57
  go_wp2_with fail
  go_at_call 71; refine H.out.mono ?_; rintro e w1 ⟨rfl, ⟨r1, -⟩, o1⟩
  rw [HE.out.1, HE2.out]
  rw [HE.out.2, HE2.out] at r1
  have HX := Lib.hid (And.intro r1 (only_tr HB.out o1))
  clear r1 o1
  go_wp2_with fail
  go_ret
  exact ⟨by simp, HX.out⟩
end Go.Proofs.Ytbpjflghkkkenaa.row

/- Push and Pop, with what they leave alone. (Printed by mkZf.py out of XK7 and XK8.) -/
namespace Go.Proofs.Ytbpjflghkkkenaa.heap
open Go.RowKit
open Go.Proofs.Ytbpjflghkkkenaa.fns Go.Proofs.Ytbpjflghkkkenaa.hpf Go.Proofs.Ytbpjflghkkkenaa.ints
open Go.Proofs.Ytbpjflghkkkenaa.aig (Only)
open Go.Proofs.Ytbpjflghkkkenaa.row (only_tr only_of only_refl)

/-- the blocks that a heap's methods write -/
def HQ (g p : Nat) (tv : Value) (k : Nat) : Prop := k = g ∨ k = p ∨ tv.ownBlock = some k
/-- another tree lies in the old one's block, or in a new one -/
def OwnN (tv tv' : Value) (w : World) : Prop := ∀ k, tv'.ownBlock = some k → tv.ownBlock = some k ∨ w.heap.size ≤ k
theorem only_grown {P : Nat → Prop} {w w1 w2 : World} {row : Option Nat} (h : Only P w w1) (g : w1.grownBy w2 row) (hr : ∀ k, row = some k → P k ∨ w.heap.size ≤ k) : Only P w w2 :=
  ⟨g.os.trans h.os, g.tape.trans h.tape, g.output.trans h.output, Nat.le_trans h.size g.size, fun k hk hn => (g.block k (Nat.lt_of_lt_of_le hk h.size) (fun e => by
    rcases hr k e.symm with a | a
    · exact hn a
    · omega)).trans (h.block k hk hn)⟩
theorem only_setC {P : Nat → Prop} {w w1 : World} {b i : Nat} (h : Only P w w1) (hb : P b ∨ w.heap.size ≤ b) (v : Value) : Only P w (w1.setCell ⟨b, i, none⟩ v) := by
  have k := (Below.refl b w1).setCell (p := ⟨b, i, none⟩) (Nat.le_refl _) v
  refine ⟨k.os.trans h.os, k.tape.trans h.tape, k.output.trans h.output, Nat.le_trans h.size k.size, fun j hj hn => (Below.heap_setCell w1 ⟨b, i, none⟩ v j (fun e => ?_)).trans (h.block j hj hn)⟩
  have e : j = b := e
  rcases hb with a | a
  · exact hn (by rw [e]; exact a)
  · omega
theorem only_off {P : Nat → Prop} {w w1 w2 : World} {t p : Nat} (h : Only P w w1) (o : Off t p w1 w2) (ht : P t ∨ w.heap.size ≤ t) (hp : P p ∨ w.heap.size ≤ p) : Only P w w2 :=
  ⟨o.os.trans h.os, o.tape.trans h.tape, o.output.trans h.output, Nat.le_trans h.size o.size, fun k hk hn => (o.block k (Nat.lt_of_lt_of_le hk h.size) (fun e => by
    rcases ht with a | a
    · exact hn (by rw [e]; exact a)
    · omega) (fun e => by
    rcases hp with a | a
    · exact hn (by rw [e]; exact a)
    · omega)).trans (h.block k hk hn)⟩
theorem only_drew {P : Nat → Prop} {w w1 : World} (h : Only P w w1) : Only P w w1.drew := ⟨h.os, h.tape, h.output, h.size, h.block⟩
def Pushed2 (A B g s p n x : Nat) (tv : Value) (S P T : List Nat) (w w' : World) : Prop :=
  ∃ tv' P' T', Hp A B w' g s p tv' n S P' T' ∧ Hok n S P' T' ∧ T'.length = T.length + 1 ∧ Same (P.set x (T.length + 1)) P' ∧ Only (HQ g p tv) w w' ∧ OwnN tv tv' w
def Popped2 (A B g s p n x : Nat) (tv : Value) (S P T : List Nat) (w w' : World) : Prop :=
  ∃ tv' P' T', Hp A B w' g s p tv' n S P' T' ∧ Hok n S P' T' ∧ T'.length + 1 = T.length ∧ Same (P.set x 0) P' ∧ Only (HQ g p tv) w w' ∧ OwnN tv tv' w
set_option maxHeartbeats 3200000 in
theorem Push2_any (A B g s p n x : Nat) (tv : Value) (S P T : List Nat) (w : World) (h : Hp A B w g s p tv n S P T) (hS : AllW S) (hok : Hok n S P T) (hx : x < n) (h0 : P.getD x 0 = 0) (hT : T.length < n) (hn : n ≤ 1048576) :
    Calls Try.prog 79 #[.pointer (some ⟨g, 0, none⟩), .int .i64 x] w fun e w' => e = .returned (.int .i64 0) ∧ Pushed2 A B g s p n x tv S P T w w' := by
  obtain ⟨i0, hi, hz0, hz1, hz2⟩ := info_parts infoInt
  have hlow := h.low
  have HH := Lib.hid h
  have HS := Lib.hid hS
  have HK := Lib.hid hok
  have HA1 : Hid (Hp A B (w.alloc (.cells #[.int .i64 (x : Int)] 3)) g s p tv n S P T) := Lib.hid (h.on ((Below.refl _ _).alloc (Nat.le_refl _) _))
  obtain ⟨-, -, c2, -⟩ := h.cG
  have HHas : Hid (decide (0 < P.getD x 0) = false) := Lib.hid (by rw [h0]; rfl)
  have H0 := Lib.hid h0
  clear h hS hok h0
  go_enter Try.func79, Try.ntmps79
  go_wp2_with fail
  go_at_call 83; refine (known_any A B g s p n x _ S P T _ HH.out hx).mono ?_; rintro e w' ⟨rfl, rfl⟩
  go_wp2_with fail
  go_at_call 84; refine (Has_of A B g s p n x _ S P T _ HHas.out HH.out hx).mono ?_; rintro e w' ⟨rfl, rfl⟩
  go_upto_region 5 with fail
  go_cut [] (fun wx => Hid (∃ tv', Hp A B wx g s p tv' n S P (T ++ [x]) ∧ Only (HQ g p tv) w wx ∧ OwnN tv tv' w))
  case first =>
    go_wp2_with (at_builtin; refine wpList_append_lies _ rfl _ _ 22 rfl B 3 i0 (.int .i64 0) 1 8 Try.underlying22 hi hz0 hz1 hz2 rfl (by decide) tv T.length (ncells T) rfl HA1.out.tr ⟨w.heap.size, 0, none⟩ 1 1 [.int .i64 (x : Int)] rfl rfl (news1 _ _ _) (one_cell x) (by decide) (by unfold maxLen; omega) (by omega) (by simp; omega) _ rfl ?_)
    intro t c w1 hown hgrow hat hlt
    rw [ncells_snoc, show T.length + 1 = (T ++ [x]).length by simp] at hown
    have hN0 := HA1.out.setO hgrow (apart_own HA1.out.tr) hown
    rw [List.length_append, List.length_singleton] at hN0
    have HN := Lib.hid hN0
    clear hN0
    have HB : Hid (Only (HQ g p tv) w (w1.setCell ⟨g, 2, none⟩ (.slice (some ⟨t, 0, none⟩) (T.length + 1) c)) ∧ OwnN tv (.slice (some ⟨t, 0, none⟩) (T.length + 1) c) w) := Lib.hid
      ⟨only_setC (only_grown (only_of ((Below.refl w.heap.size w).alloc (Nat.le_refl _) _)) hgrow (fun k hk => .inl (.inr (.inr hk)))) (.inl (.inl rfl)) _, fun k hk => by
        obtain rfl : t = k := by simpa [Value.ownBlock] using hk
        rcases hat with e | e
        · exact .inl e
        · exact .inr (by omega)⟩
    have hne : some g ≠ tv.ownBlock := by
      rcases apart_own HA1.out.tr with e | ⟨k', e, hB⟩
      · rw [e]; simp
      · rw [e]; intro x; cases x; have := HA1.out.lay; omega
    obtain ⟨-, -, d2, df⟩ := HA1.out.cG
    have hgl : g < (w.alloc (.cells #[.int .i64 (x : Int)] 3)).heap.size := by have := HA1.out.lay; omega
    have c3 := (hgrow.cell_far ⟨g, 2, none⟩ hgl hne).trans d2
    have f3 := (hgrow.frozen_far ⟨g, 2, none⟩ hgl hne).trans df
    clear hown hgrow hat hne d2 df c2
    go_wp2_with fail
    go_meet
    exact ⟨_, HN.out, HB.out⟩
  case rest =>
    clear HA1 c2 HH HHas
    obtain ⟨tv', hp, hb, hob⟩ := hcut.out
    obtain ⟨W, rfl⟩ : ∃ W : World, W = wc := ⟨_, rfl⟩
    obtain ⟨t, c, rfl⟩ := hp.form (by simp)
    obtain ⟨m, hm⟩ : ∃ m, m = (T ++ [x]).length := ⟨_, rfl⟩
    have hm1 : m = T.length + 1 := by rw [hm]; simp
    rw [← hm] at hp
    have HM := Lib.hid hm1
    have hp1 := hp.setP x m
    have HP1 := Lib.hid hp1
    have HB := Lib.hid hb
    have HBt := Lib.hid hp.len.2.2.2
    have HOB := Lib.hid hob
    obtain ⟨-, c1, c2, -⟩ := hp.cG
    obtain ⟨x2, f2⟩ := hp.cP hx
    obtain ⟨o1, ho1⟩ : ∃ o1, o1 = ((P.getD x 0 : Nat) : Int) := ⟨_, rfl⟩
    rw [← ho1] at x2
    have d1 : (x : Int) < (n : Int) := by omega
    have d2 : 0 ≤ (x : Int) := by omega
    have hmn : m ≤ n := by omega
    clear ho1 hp hb hob hm hm1 hp1 hcut
    go_upto_region 6 with fail
    go_cut [] (fun wx => Hid (Hp A B wx g s p (.slice (some ⟨t, 0, none⟩) m c) n S (P.set x m) (T ++ [x]) ∧ Only (HQ g p tv) w wx))
    case first =>
      have HB1 : Hid (Only (HQ g p tv) w (W.setCell ⟨p, x, none⟩ (.int .i64 (m : Int)))) := Lib.hid (only_setC HB.out (.inl (.inr (.inl rfl))) _)
      go_region
      go_wp2_with fail
      go_meet
      exact ⟨HP1.out.drewN 1, only_drew HB1.out⟩
    case rest =>
      clear HP1 x2 f2 c1 c2 HB d1 d2
      obtain ⟨hp, hb⟩ := hcut.out
      obtain ⟨W, rfl⟩ : ∃ W : World, W = wc := ⟨_, rfl⟩
      have HP := Lib.hid hp
      have HB := Lib.hid hb
      have HW := Lib.hid (push_way HK.out hx H0.out)
      clear hp hb hcut
      go_wp2_with fail
      go_at_call 85; refine (rise_any A B g s p t m c n x T.length S (P.set x m) (T ++ [x]) True _ HP.out HS.out (by rw [HM.out]; exact HW.out) hn hmn).mono ?_; rintro e w2 ⟨rfl, hr⟩
      have HE : Hid (Pushed2 A B g s p n x tv S P T w w2) := Lib.hid (by
        obtain ⟨P', T', q, e1, e2, e3, e4, e5, e6⟩ := hr
        refine ⟨_, P', T', e1, e2.hok trivial e3, by rw [e5]; simp, by rw [← HM.out]; exact e4, only_off HB.out e6 ((HOB.out t rfl).imp (fun e => .inr (.inr e)) id) (.inl (.inr (.inl rfl))), HOB.out⟩)
      clear hr
      go_wp2_with fail
      go_ret
      exact ⟨rfl, HE.out⟩
set_option maxHeartbeats 3200000 in
theorem Pop2_any (A B g s p n x e : Nat) (tv : Value) (S P T : List Nat) (w : World) (h : Hp A B w g s p tv n S P T) (hS : AllW S) (hok : Hok n S P T) (hT : T.length = e + 1) (hx : T.getD 0 0 = x) (hTn : T.length ≤ n) (hn : n ≤ 1048576) :
    Calls Try.prog 75 #[.pointer (some ⟨g, 0, none⟩)] w fun r w' => r = .returned (.tuple #[.int .i64 x, .bool true]) ∧ Popped2 A B g s p n x tv S P T w w' := by
  have hlow := h.low
  obtain ⟨t, c, rfl⟩ := h.form (by omega)
  have HON : Hid (∀ m', OwnN (.slice (some ⟨t, 0, none⟩) T.length c) (.slice (some ⟨t, 0, none⟩) m' c) w) := Lib.hid (fun m' k hk => .inl hk)
  have hBt := h.len.2.2.2.1
  have hc := h.len.2
  unfold maxLen at hc
  obtain ⟨-, -, c2, -⟩ := h.cG
  obtain ⟨x1, -⟩ := h.cT (i := 0) (by omega)
  have hxn := (hok.wf.at_ 0 (by omega)).1
  rw [hx] at x1 hxn
  obtain ⟨m, hm⟩ : ∃ m, m = T.length := ⟨_, rfl⟩
  rw [← hm] at h c2 hTn hT hc
  have hme : 0 < m := by omega
  have HME := Lib.hid hT
  have HM := Lib.hid hm
  have HH := Lib.hid h
  have HS := Lib.hid hS
  have HK := Lib.hid hok
  have HX := Lib.hid hx
  have HE0 : Hid ((m : Int) - 1 = (e : Int)) := Lib.hid (by omega)
  have t0 : ((m : Int) == 0) = false := by simp; omega
  have hem : e < m := by omega
  have b1 : 0 < (m : Int) := by omega
  clear h hS hok hx hm hT
  go_enter Try.func75, Try.ntmps75
  go_wp2_with fail
  go_at_call 80; refine (Len_any A B g s p n _ S P T _ HH.out).mono ?_; rintro r w' ⟨rfl, rfl⟩
  rw [← HM.out]
  go_upto_region 3 with fail
  go_cut [4, 5] (fun s4 s5 wx => s4 = .int .i64 (x : Int) ∧ s5 = .int .i64 (e : Int) ∧ Hid (∃ q, wx = w.drewN q))
  case first =>
    go_quiet (fail)
    go_wp2_with fail
    go_meet
    exact ⟨rfl, by rw [HE0.out], Lib.hid ⟨_, rfl⟩⟩
  case rest =>
    obtain ⟨rfl, rfl, hq⟩ := hcut
    obtain ⟨q, hw⟩ := hq.out
    obtain ⟨W, rfl⟩ : ∃ W : World, W = wc := ⟨_, rfl⟩
    have HHW : Hid (Hp A B W g s p (.slice (some ⟨t, 0, none⟩) m c) n S P T ∧ Only (HQ g p (.slice (some ⟨t, 0, none⟩) T.length c)) w W) := Lib.hid (by rw [hw]; exact ⟨HH.out.drewN q, only_of (below_drewN (Below.refl _ _) q)⟩)
    clear hq hw c2 x1 t0 HH
    go_wp2_with fail
    go_at_call 81; refine (swap_any A B g s p t m c n 0 e S P T _ HHW.out.1 HK.out.wf (by rw [← HM.out]; exact hme) (by rw [← HM.out]; exact hem) hn hTn).mono ?_; rintro r w1 ⟨rfl, hp1, hoff⟩
    obtain ⟨P1, hP1⟩ : ∃ P1, P1 = swP P T 0 e := ⟨_, rfl⟩
    obtain ⟨T1, hT1⟩ : ∃ T1, T1 = swT T 0 e := ⟨_, rfl⟩
    rw [← hP1, ← hT1] at hp1
    have htl : (T1.take e).length = e := by rw [List.length_take, hT1, swT_len, ← HM.out]; omega
    have hbel := only_off HHW.out.2 hoff (.inl (.inr (.inr rfl))) (.inl (.inr (.inl rfl)))
    have hrow := hp1.tr
    rw [hp1.len.1] at hrow
    have hrow := own_cut hrow (Nat.le_of_lt hem)
    rw [ncells_take] at hrow
    have hp2 := hp1.setO (World.grownBy.refl w1 none) (.inl rfl) (T' := T1.take e) (tv' := .slice (some ⟨t, 0, none⟩) e c) (by rw [htl]; exact hrow)
    have HP2 := Lib.hid hp2
    have HB2 : Hid (Only (HQ g p (.slice (some ⟨t, 0, none⟩) T.length c)) w (w1.setCell ⟨g, 2, none⟩ (.slice (some ⟨t, 0, none⟩) e c))) := Lib.hid (only_setC hbel (.inl (.inl rfl)) _)
    obtain ⟨-, -, c2, f2⟩ := hp1.cG
    have HP1 := Lib.hid hP1
    have HT1 := Lib.hid hT1
    have HTL := Lib.hid htl
    clear hP1 hT1 htl hbel hrow hp2 hp1 hoff HHW
    go_upto_region 5 with fail
    go_cut [] (fun wx => Hid (Hp A B wx g s p (.slice (some ⟨t, 0, none⟩) e c) n S P1 (T1.take e) ∧ Only (HQ g p (.slice (some ⟨t, 0, none⟩) T.length c)) w wx))
    case first =>
      go_wp2_with fail
      go_meet
      exact ⟨HP2.out, HB2.out⟩
    case rest =>
      clear HP2 HB2 c2 f2
      obtain ⟨hp, hb⟩ := hcut.out
      obtain ⟨W, rfl⟩ : ∃ W : World, W = wc := ⟨_, rfl⟩
      have HP2 := Lib.hid (hp.setP x 0)
      have HB2 : Hid (Only (HQ g p (.slice (some ⟨t, 0, none⟩) T.length c)) w (W.setCell ⟨p, x, none⟩ (.int .i64 ((0 : Nat) : Int)))) := Lib.hid (only_setC hb (.inl (.inr (.inl rfl))) _)
      obtain ⟨-, c1, -, -⟩ := hp.cG
      obtain ⟨x2, f2⟩ := hp.cP hxn
      obtain ⟨o1, ho1⟩ : ∃ o1, o1 = ((P1.getD x 0 : Nat) : Int) := ⟨_, rfl⟩
      rw [← ho1] at x2
      have d1 : (x : Int) < (n : Int) := by omega
      have d2 : 0 ≤ (x : Int) := by omega
      clear hp hb hcut ho1
      go_upto_region 6 with fail
      go_cut [] (fun wx => Hid (Hp A B wx g s p (.slice (some ⟨t, 0, none⟩) e c) n S (P1.set x 0) (T1.take e) ∧ Only (HQ g p (.slice (some ⟨t, 0, none⟩) T.length c)) w wx))
      case first =>
        go_wp2_with fail
        go_meet
        exact ⟨HP2.out, HB2.out⟩
      case rest =>
        clear HP2 HB2 c1 x2 f2 d1 d2
        obtain ⟨W, rfl⟩ : ∃ W : World, W = wc := ⟨_, rfl⟩
        have HSM : Hid (Same (P.set x 0) (P1.set x 0)) := Lib.hid (by
          rw [HP1.out]
          exact same_set HK.out.wf.len (by rw [swP_len]; exact HK.out.wf.len) hxn (wf_sw HK.out.wf (by rw [← HM.out]; exact hme) (by rw [← HM.out]; exact hem)).2)
        by_cases h0 : e = 0
        · have HE : Hid (Popped2 A B g s p n x (.slice (some ⟨t, 0, none⟩) T.length c) S P T w W) := Lib.hid (by
            obtain ⟨hp, hb⟩ := hcut.out
            have hk := pop_none HK.out (by rw [← HM.out, HME.out, h0])
            rw [h0] at HP1 HT1
            rw [HX.out, ← HP1.out, ← HT1.out] at hk
            rw [h0] at hp
            exact ⟨_, _, _, hp, hk, by rw [← HM.out, HME.out, h0]; simp, HSM.out, hb, HON.out _⟩)
          have t1 : decide (0 < e) = false := by simp; omega
          clear h0 hcut
          go_wp2_with fail
          go_ret2
          exact ⟨rfl, HE.out⟩
        · have t1 : decide (0 < e) = true := by simp; omega
          have HW : Hid (OnWay n S ((T1.take e).getD 0 0) False (P1.set x 0) (T1.take e) 0 ∧ Up (vs S (T1.take e)) 0) := Lib.hid (by
            have hk := pop_way HK.out (by rw [← HM.out]; exact HME.out) (show 0 < e by omega)
            rw [HX.out, ← HP1.out, ← HT1.out] at hk
            exact hk)
          obtain ⟨hp, hb⟩ := hcut.out
          obtain ⟨-, -, c2, -⟩ := hp.cG
          obtain ⟨x1, -⟩ := hp.cT (i := 0) (by rw [HTL.out]; omega)
          obtain ⟨y, hy⟩ : ∃ y, y = (T1.take e).getD 0 0 := ⟨_, rfl⟩
          rw [← hy] at x1 HW
          have HP := Lib.hid hp
          have HB := Lib.hid hb
          have d1 : 0 < (e : Int) := by omega
          clear h0 hcut hp hb hy
          go_wp2_with fail
          go_at_call 82; refine (sink_any A B g s p t e c n y 0 S (P1.set x 0) (T1.take e) _ HP.out HS.out HW.out.1 HW.out.2 hn (by omega)).mono ?_; rintro r w3 ⟨rfl, hr⟩
          have HE : Hid (Popped2 A B g s p n x (.slice (some ⟨t, 0, none⟩) T.length c) S P T w w3) := Lib.hid (by
            obtain ⟨P'', T'', k1, k2, k3, k4, k5⟩ := hr
            exact ⟨_, P'', T'', k1, k2, by rw [k4, HTL.out, ← HM.out, HME.out], HSM.out.trans k3, only_off HB.out k5 (.inl (.inr (.inr rfl))) (.inl (.inr (.inl rfl))), HON.out _⟩)
          clear hr
          go_wp2_with fail
          go_ret2
          exact ⟨rfl, HE.out⟩
end Go.Proofs.Ytbpjflghkkkenaa.heap

/- The library's Repeat of one number. -/
namespace Go.Proofs.Ytbpjflghkkkenaa.row
set_option maxRecDepth 100000
open Go.RowKit
open Go.Proofs.Ytbpjflghkkkenaa.aig (Only)

theorem and_low (y : Nat) (hy : y < 4294967296) : bits BinOp.and IntKind.u64 (y : Int) 4294967295 = (y : Int) := by
  have := u64_and_nat y 4294967295 (by omega) (by omega)
  rw [show ((4294967295 : Nat) : Int) = 4294967295 by rfl] at this
  rw [this, show (4294967295 : Nat) = 2 ^ 32 - 1 by rfl, Nat.and_two_pow_sub_one_eq_mod, Nat.mod_eq_of_lt (by simpa using hy)]
set_option maxHeartbeats 1600000 in
theorem mul64_one (y : Nat) (hy : y < 4294967296) (w : World) : Calls Try.prog 66 #[.int .u64 1, .int .u64 (y : Int)] w fun e w' => e = .returned (.tuple #[.int .u64 0, .int .u64 (y : Int)]) ∧ w' = w := by
  have a1 : bits BinOp.and IntKind.u64 1 4294967295 = 1 := by decide
  have a0 : bits BinOp.and IntKind.u64 0 4294967295 = 0 := by decide
  have ay := and_low y hy
  have q0 : (y : Int) / 4294967296 = 0 := by omega
  have wy : IntKind.u64.wrap (y : Int) = (y : Int) := by rw [IntKind.wrap_u64]; omega
  have w0 : IntKind.u64.wrap 0 = 0 := by decide
  clear hy
  go_enter Try.func66, Try.ntmps66
  go_wp2_with fail
  go_ret2
  refine ⟨?_, rfl⟩
  simp
set_option maxHeartbeats 1600000 in
theorem mul_one (y : Nat) (hy : y < 4294967296) (w : World) : Calls Try.prog 47 #[.int .u64 1, .int .u64 (y : Int)] w fun e w' => e = .returned (.tuple #[.int .u64 0, .int .u64 (y : Int)]) ∧ w' = w := by
  have H := Lib.hid (mul64_one y hy w)
  clear hy
  go_enter Try.func47, Try.ntmps47
  go_wp2_with fail
  go_at_call 66; refine H.out.mono ?_; rintro e w' ⟨rfl, rfl⟩
  go_wp2_with fail
  go_ret2
  exact ⟨rfl, rfl⟩
/-- ints as cells -/
def intA (zs : List Int) : Array Value := (zs.map (Value.int .i64)).toArray
/-- a row of m numbers, the first k of which are x, the others 0 -/
def fillV (x : Int) (k m : Nat) : List Value := List.replicate k (.int .i64 x) ++ List.replicate (m - k) (.int .i64 0)
theorem fillV_len {x : Int} {k m : Nat} (h : k ≤ m) : (fillV x k m).length = m := by simp [fillV]; omega
theorem fillV_splice {x : Int} {k c m : Nat} (h : k + c ≤ m) : splice (fillV x k m) k (List.replicate c (.int .i64 x)) = fillV x (k + c) m := by
  unfold splice fillV
  rw [List.take_append_of_le_length (by simp), List.take_of_length_le (by simp), List.length_replicate, List.drop_append, List.drop_of_length_le (by simp), List.nil_append, List.drop_replicate, List.length_replicate, ← List.replicate_append_replicate, List.append_assoc]
  congr 3
  omega
theorem fillV_all (x : Int) (m : Nat) : (fillV x m m).toArray = intA (List.replicate m x) := by simp [fillV, intA]
theorem mk_ints2 (n : Nat) (w : World) (hn : n ≤ 1000000000) : (Instr.makeSlice 22 (.int .i64 (n : Int)) (.int .i64 (n : Int))).run Try.prog w =
    .ok (.slice (some ⟨w.heap.size, 0, none⟩) n n) (w.alloc (.cells (madeCells #[.int .i64 0] n) 3)) := by
  obtain ⟨i0, hi, hz0, hz1, hz2⟩ := info_parts infI
  have h := run_make (P := Try.prog) w 22 3 i0 _ Try.underlying22 hi hz0 .i64 .i64 n n (by omega) (Int.le_refl _) (by rw [hz2]; omega) (by omega)
  rw [hz1, Nat.mul_one, Int.toNat_natCast] at h
  exact h
theorem made_ints (m : Nat) : madeCells #[Value.int .i64 0] m = (fillV 0 0 m).toArray := by
  have := toList_madeCells_one (.int .i64 0) m
  rw [← Array.toList_inj, this]; simp [fillV]
theorem made_fill (x : Int) (m : Nat) : madeCells #[Value.int .i64 0] m = (fillV x 0 m).toArray := by rw [made_ints]; simp [fillV]
/-- a new row of one number, many times -/
def RowNew (x : Int) (m : Nat) (w : World) (e : Ending) (w' : World) : Prop := ∃ G, e = .returned (.slice (some ⟨G, 0, none⟩) m m) ∧ w.heap.size ≤ G ∧ w'.heap[G]? = some (.cells (intA (List.replicate m x)) 3 (0, 0)) ∧ Below w.heap.size w w'
set_option maxHeartbeats 3200000 in
theorem repeat_any (x : Int) (m g : Nat) (w : World) (hm : m ≤ 100000000) (hg : Blk w g #[.int .i64 x]) :
    Calls Try.prog 25 #[.slice (some ⟨g, 0, none⟩) 1 1, .int .i64 (m : Int)] w (RowNew x m w) := by
  have hmk := mk_ints2 m w (by omega)
  have HM := Lib.hid (mul_one m (by omega))
  have c1 : IntKind.u64.wrap (m : Int) = (m : Int) := by rw [IntKind.wrap_u64]; omega
  have c2 : IntKind.i64.wrap (m : Int) = (m : Int) := IntWalk.i64_in _ (by omega)
  have d0 : decide ((m : Int) < 0) = false := by simp
  have d1 : decide ((m : Int) > 9223372036854775807) = false := by simp; omega
  have HG := Lib.hid hg
  clear hg
  go_enter Try.func25, Try.ntmps25
  go_wp2_with fail
  go_at_call 47; refine (HM.out w).mono ?_; rintro e w' ⟨rfl, rfl⟩
  go_upto_region 7 with fail
  obtain ⟨w, rfl⟩ : ∃ v : World, v = w' := ⟨_, rfl⟩
  have HHEAP : Hid ((w.alloc (.cells (madeCells #[.int .i64 0] m) 3)).heap[w.heap.size]? = some (.cells (fillV x 0 m).toArray 3 (0, 0))) := Lib.hid (by
    show (w.heap.push _)[w.heap.size]? = _
    rw [Array.getElem?_push, if_pos rfl, made_fill x])
  have HB : Hid (Below w.heap.size w (w.alloc (.cells (madeCells #[.int .i64 0] m) 3))) := Lib.hid ((Below.refl _ _).alloc (Nat.le_refl _) _)
  have HG2 := Lib.hid (HG.out.on HB.out)
  obtain ⟨W, hW⟩ : ∃ W, W = w.alloc (.cells (madeCells #[.int .i64 0] m) 3) := ⟨_, rfl⟩
  rw [← hW] at HHEAP HB HG2 ⊢
  obtain ⟨G, hGG⟩ : ∃ G, G = w.heap.size := ⟨_, rfl⟩
  have HGG := Lib.hid hGG
  rw [← hGG] at HHEAP ⊢
  obtain ⟨c, hc⟩ : ∃ c, c = Nat.min 1 m := ⟨_, rfl⟩
  have hc1 : c ≤ m := by rw [hc]; exact Nat.min_le_right _ _
  have hc2 : 0 < m → 0 < c := fun h => by rw [hc]; exact Nat.lt_min.2 ⟨by omega, h⟩
  have hc3 : c ≤ 1 := by rw [hc]; exact Nat.min_le_left _ _
  have HCL : Hid ((List.replicate c (Value.int .i64 x)).length = Nat.min 1 m) := Lib.hid (by rw [List.length_replicate]; exact hc)
  have HPOS : Hid (0 < (List.replicate c (Value.int .i64 x)).length → ∃ ad, some (⟨g, 0, none⟩ : Addr) = some ad ∧ ∀ j v, (List.replicate c (Value.int .i64 x))[j]? = some v → W.cell? (ad.add j) = some v) := Lib.hid (fun _ => ⟨_, rfl, fun j v hj => by
    have hjc := (List.getElem?_eq_some_iff.1 hj).1
    rw [List.length_replicate] at hjc
    obtain rfl : j = 0 := by omega
    rw [List.getElem?_replicate, if_pos (by omega)] at hj
    obtain rfl := Option.some.inj hj
    have := (HG2.out.cell 0).1
    simpa [Addr.add] using this⟩)
  clear hW hGG hc hmk
  go_wp2_with (refine wpList_copy_splice (o := ⟨some 33, _, _, _, _, _⟩) rfl (.tmp 31) (.tmp 32) 22 22 rfl 3 Try.underlying22 (by kernel_rfl) _ _ _ _ _ _ rfl rfl G 0 (fillV x 0 m) _ HHEAP.out (List.replicate c (Value.int .i64 x)) HCL.out (fun hp => ⟨rfl, HPOS.out hp⟩) (by rw [fillV_len (Nat.zero_le _), List.length_replicate]; omega) (fun v hv => by rw [List.eq_of_mem_replicate hv]; rfl) w.heap.size w HB.out (by rw [HGG.out]; exact Nat.le_refl _) ?_)
  intro w2 hg2 hb2
  rw [fillV_splice (by omega), Nat.zero_add] at hg2
  have HB2 := Lib.hid hb2
  clear HHEAP HB HPOS HCL hb2 HG2
  have e0 : IntKind.i64.wrap (c : Int) = (c : Int) := IntWalk.i64_in _ (by omega)
  go_wp2_with fail
  go_loopw [8] (fun i wr => ∃ k : Nat, k ≤ m ∧ (0 < m → 0 < k) ∧ i = .int .i64 k ∧ Hid (wr.heap[G]? = some (.cells (fillV x k m).toArray 3 (0, 0))) ∧ Hid (Below w.heap.size w wr)) (fun i _ => m - (intOf i).toNat)
  case atStart => exact ⟨c, hc1, hc2, rfl, hg2, HB2⟩
  case round =>
    clear hg2 HB2
    obtain ⟨k, hk, hk0, rfl, HK, HB⟩ := hrel
    obtain ⟨wo, rfl⟩ : ∃ wo : World, wo = wr := ⟨_, rfl⟩
    by_cases hlt : k < m
    · have d1 : (k : Int) < (m : Int) := by omega
      have d2 : 0 ≤ (k : Int) := by omega
      obtain ⟨c', hc'⟩ : ∃ c', c' = Nat.min k (m - k) := ⟨_, rfl⟩
      have hc4 : c' ≤ m - k := by rw [hc']; exact Nat.min_le_right _ _
      have hc5 : 0 < c' := by rw [hc']; exact Nat.lt_min.2 ⟨hk0 (by omega), by omega⟩
      have hc6 : c' ≤ k := by rw [hc']; exact Nat.min_le_left _ _
      have HCL : Hid ((List.replicate c' (Value.int .i64 x)).length = Nat.min k (m - k)) := Lib.hid (by rw [List.length_replicate]; exact hc')
      have HPOS : Hid (0 < (List.replicate c' (Value.int .i64 x)).length → ∃ ad, some (⟨G, 0, none⟩ : Addr) = some ad ∧ ∀ j v, (List.replicate c' (Value.int .i64 x))[j]? = some v → wo.drew.cell? (ad.add j) = some v) := Lib.hid (fun _ => ⟨_, rfl, fun j v hj => by
        have hjc := (List.getElem?_eq_some_iff.1 hj).1
        rw [List.length_replicate] at hjc
        have hb : Blk wo G (fillV x k m).toArray := ⟨_, HK.out⟩
        have := ((hb.drewN 1).cell j).1
        rw [List.getElem?_replicate, if_pos hjc] at hj
        obtain rfl := Option.some.inj hj
        rw [Go.Proofs.Ytbpjflghkkkenaa.mem.addr_add, Nat.zero_add]
        refine this.trans ?_
        unfold fillV
        rw [List.getElem?_toArray, List.getElem?_append_left (by simp; omega), List.getElem?_replicate, if_pos (by omega)]⟩)
      have HFL : Hid ((fillV x k m).length = m) := Lib.hid (fillV_len hk)
      have HKD : Hid (wo.drew.heap[G]? = some (.cells (fillV x k m).toArray 3 (0, 0))) := HK
      have HBD : Hid (Below w.heap.size w wo.drew) := Lib.hid HB.out.drew
      have d3 : (k : Int) ≤ (m : Int) := by omega
      have d4 : k ≤ m := hk
      have d5 : ¬ m = k := by omega
      have e1 : IntKind.i64.wrap ((k : Int) + (c' : Int)) = (k : Int) + (c' : Int) := IntWalk.i64_in _ (by omega)
      have e2 : (k : Int) + (c' : Int) = ((k + c' : Nat) : Int) := by omega
      have E2 := Lib.hid e2
      have e3 : ((m : Int) - (k : Int)).toNat = m - k := by omega
      go_upto_region 9 with fail
      clear e2 hc'
      have q1 : (Try.prog.info? 3).map (·.size) = some 1 := by kernel_rfl
      have q2 : Hid (k + (List.replicate c' (Value.int .i64 x)).length ≤ (fillV x k m).length) := Lib.hid (by rw [HFL.out, List.length_replicate]; omega)
      have q3 : Hid (∀ v ∈ List.replicate c' (Value.int .i64 x), v.oneCell' = true) := Lib.hid (fun v hv => by rw [List.eq_of_mem_replicate hv]; rfl)
      have q4 : Hid (w.heap.size ≤ G) := Lib.hid (by rw [HGG.out]; exact Nat.le_refl _)
      have q5 : Hid (0 < (List.replicate c' (Value.int .i64 x)).length → (some ⟨G, k, none⟩ : Option Addr) = some ⟨G, k, none⟩ ∧ ∃ ad, (some (⟨G, 0, none⟩ : Addr)) = some ad ∧ ∀ j v, (List.replicate c' (Value.int .i64 x))[j]? = some v → wo.drew.cell? (ad.add j) = some v) := Lib.hid (fun hp => ⟨rfl, HPOS.out hp⟩)
      have Q1 := Lib.hid q1
      clear q1
      go_region_law (with_reducible refine step_copy_splice (P := Try.prog) (o := ⟨some 45, _, _, _, _, _⟩) ?h1 (.tmp 41) (.tmp 44) 22 22 ?h2 3 Try.underlying22 Q1.out (some ⟨G, k, none⟩) (some ⟨G, 0, none⟩) (m - k) (m - k) k m ?h3 ?h4 G k (fillV x k m) 3 HKD.out (List.replicate c' (Value.int .i64 x)) HCL.out q5.out q2.out q3.out w.heap.size w HBD.out q4.out ?h5; (case h1 => rfl); (case h2 => rfl); (case h3 => first | rfl | (go_simp; done) | (simp [Act.eval, Act.put, d5]; done)); (case h4 => first | rfl | (go_simp; done) | (simp [Act.eval, Act.put, d5]; done)); intro w4 hg4 hb4)
      have hg5 : w4.heap[G]? = some (.cells (fillV x (k + c') m).toArray 3 (0, 0)) := by
        have := hg4.out
        rwa [fillV_splice (by omega)] at this
      have HK5 := Lib.hid hg5
      have HB5 := Lib.hid hb4
      clear hg4 hb4 hg5
      go_wp2_with fail
      go_roundw
      case rel => exact ⟨k + c', by omega, fun _ => by omega, by omega, HK5⟩
      case measure => simp [intOf]; omega
    · obtain rfl : m = k := by omega
      have HE : Hid (RowNew x m w (.returned (.slice (some ⟨G, 0, none⟩) m m)) wo) := Lib.hid ⟨G, rfl, by rw [HGG.out]; exact Nat.le_refl _, by have := HK.out; rw [fillV_all] at this; exact this, HB.out⟩
      clear hlt hk
      go_wp2_with fail
      go_ret
      exact HE.out
end Go.Proofs.Ytbpjflghkkkenaa.row
