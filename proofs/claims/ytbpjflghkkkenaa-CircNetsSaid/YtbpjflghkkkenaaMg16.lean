import Derived.PlainAid
import Derived.Lib.Hide
import Derived.Test.YtbpjflghkkkenaaProg
import Derived.WalkKit
import Derived.Handy
import Derived.Outline
import Derived.Test.YtbpjflghkkkenaaMg14
import Derived.Test.YtbpjflghkkkenaaMg15
import Derived.BigQuiet
/- Plain functions: literals. -/
namespace Go.Proofs.Ytbpjflghkkkenaa.fns

/-- a variable's literal -/
def litOf (v : Int) (b : Bool) : Int := if v < 0 ∨ 16777216 < v then -1 else if b then 2 * v + 1 else 2 * v
def goodB (l : Int) : Bool := decide (0 ≤ l ∧ l ≤ 33554433)
def litVar (l : Int) : Int := if goodB l then l / 2 else -1
def litNot (l : Int) : Int := if goodB l then (if l % 2 = 1 then l - 1 else l + 1) else -1
def litNeg (l : Int) : Bool := goodB l && decide (l % 2 = 1)

theorem good_yes {l : Int} (h0 : 0 ≤ l) (h1 : l ≤ 33554433) : goodB l = true := by unfold goodB; simp [h0, h1]
theorem good_no {l : Int} (h : ¬ (0 ≤ l ∧ l ≤ 33554433)) : goodB l = false := by unfold goodB; simpa using h
theorem good_iff {l : Int} : goodB l = true ↔ 0 ≤ l ∧ l ≤ 33554433 := by unfold goodB; simp
theorem of_bad {v : Int} {b : Bool} (h : v < 0 ∨ 16777216 < v) : litOf v b = -1 := by unfold litOf; rw [if_pos h]
theorem of_pos {v : Int} (h0 : 0 ≤ v) (h1 : v ≤ 16777216) : litOf v false = 2 * v := by unfold litOf; rw [if_neg (by omega)]; rfl
theorem of_neg {v : Int} (h0 : 0 ≤ v) (h1 : v ≤ 16777216) : litOf v true = 2 * v + 1 := by unfold litOf; rw [if_neg (by omega)]; rfl
theorem var_yes {l : Int} (h : goodB l = true) : litVar l = l / 2 := by unfold litVar; rw [if_pos h]
theorem var_no {l : Int} (h : goodB l = false) : litVar l = -1 := by unfold litVar; rw [if_neg (by simp [h])]
theorem neg_no {l : Int} (h : goodB l = false) : litNeg l = false := by unfold litNeg; simp [h]
theorem neg_odd {l : Int} (h : goodB l = true) (h2 : l % 2 = 1) : litNeg l = true := by unfold litNeg; simp [h, h2]
theorem neg_even {l : Int} (_h : goodB l = true) (h2 : l % 2 = 0) : litNeg l = false := by unfold litNeg; simp [h2]
theorem not_no {l : Int} (h : goodB l = false) : litNot l = -1 := by unfold litNot; rw [if_neg (by simp [h])]
theorem not_odd {l : Int} (h : goodB l = true) (h2 : l % 2 = 1) : litNot l = l - 1 := by unfold litNot; rw [if_pos h, if_pos h2]
theorem not_even {l : Int} (h : goodB l = true) (h2 : l % 2 = 0) : litNot l = l + 1 := by unfold litNot; rw [if_pos h, if_neg (by omega)]
/-- a literal's inverse is of its variable, the other way round -/
theorem not_of (l : Int) : litNot l = litOf (litVar l) (!litNeg l) := by
  cases h : goodB l with
  | false => rw [not_no h, var_no h, of_bad (by omega)]
  | true =>
    obtain ⟨h0, h1⟩ := good_iff.1 h
    rw [var_yes h]
    by_cases h2 : l % 2 = 1
    · rw [not_odd h h2, neg_odd h h2]; rw [show (!true) = false from rfl, of_pos (by omega) (by omega)]; omega
    · rw [not_even h (by omega), neg_even h (by omega)]; rw [show (!false) = true from rfl, of_neg (by omega) (by omega)]; omega
theorem not_not {l : Int} (h : goodB l = true) : litNot (litNot l) = l := by
  obtain ⟨h0, h1⟩ := good_iff.1 h
  by_cases h2 : l % 2 = 1
  · rw [not_odd h h2, not_even (good_yes (by omega) (by omega)) (by omega)]; omega
  · rw [not_even h (by omega), not_odd (good_yes (by omega) (by omega)) (by omega)]; omega
theorem of_var {l : Int} (h : goodB l = true) : litOf (litVar l) (litNeg l) = l := by
  obtain ⟨h0, h1⟩ := good_iff.1 h
  rw [var_yes h]
  by_cases h2 : l % 2 = 1
  · rw [neg_odd h h2, of_neg (by omega) (by omega)]; omega
  · rw [neg_even h (by omega), of_pos (by omega) (by omega)]; omega
theorem of_bd (v : Int) (b : Bool) : -1 ≤ litOf v b ∧ litOf v b ≤ 33554433 := by
  unfold litOf; split
  · omega
  · split <;> omega
theorem var_bd (l : Int) : -1 ≤ litVar l ∧ litVar l ≤ 16777216 := by
  cases h : goodB l with
  | false => rw [var_no h]; omega
  | true => obtain ⟨h0, h1⟩ := good_iff.1 h; rw [var_yes h]; omega
theorem not_bd (l : Int) : -1 ≤ litNot l ∧ litNot l ≤ 33554433 := by rw [not_of]; exact of_bd _ _
end Go.Proofs.Ytbpjflghkkkenaa.fns

/- The walks of lit's calls on one literal, and of the document's. -/
namespace Go.Proofs.Ytbpjflghkkkenaa.lits
open Go.RowKit
open Go.Proofs.Ytbpjflghkkkenaa.fns

theorem retI {k : IntKind} {a b : Int} (h : a = b) : Ending.returned (.int k a) = .returned (.int k b) := by rw [h]
theorem retB {a b : Bool} (h : a = b) : Ending.returned (.bool a) = .returned (.bool b) := by rw [h]

theorem Good_any (l : Int) (w : World) : Calls Try.prog 48 #[.int .i64 l] w fun e w' => e = .returned (.bool (goodB l)) ∧ w = w' := by
  by_cases h0 : 0 ≤ l
  · by_cases h1 : l ≤ 33554433
    · have HR := Lib.hid (good_yes h0 h1)
      go_enter Try.func48, Try.ntmps48
      go_wp2
      go_ret
      exact ⟨retB HR.out.symm, rfl⟩
    · have HR := Lib.hid (good_no (fun h => h1 h.2))
      go_enter Try.func48, Try.ntmps48
      go_wp2
      go_ret
      exact ⟨retB HR.out.symm, rfl⟩
  · have HR := Lib.hid (good_no (fun h => h0 h.1))
    go_enter Try.func48, Try.ntmps48
    go_wp2
    go_ret
    exact ⟨retB HR.out.symm, rfl⟩
theorem Of_any (v : Int) (b : Bool) (w : World) : Calls Try.prog 27 #[.int .i64 v, .bool b] w fun e w' => e = .returned (.int .i64 (litOf v b)) ∧ w = w' := by
  by_cases h0 : v < 0
  · have HR := Lib.hid (of_bad (b := b) (.inl h0))
    go_enter Try.func27, Try.ntmps27
    go_wp2
    go_ret
    exact ⟨retI HR.out.symm, rfl⟩
  · have h0' : 0 ≤ v := by omega
    by_cases h1 : 16777216 < v
    · have HR := Lib.hid (of_bad (b := b) (.inr h1))
      go_enter Try.func27, Try.ntmps27
      go_wp2
      go_ret
      exact ⟨retI HR.out.symm, rfl⟩
    · have h1' : v ≤ 16777216 := by omega
      clear h0 h1
      cases b with
      | true =>
        have HR := Lib.hid (of_neg h0' h1')
        go_enter Try.func27, Try.ntmps27
        go_wp2
        go_ret
        exact ⟨retI HR.out.symm, rfl⟩
      | false =>
        have HR := Lib.hid (of_pos h0' h1')
        go_enter Try.func27, Try.ntmps27
        go_wp2
        go_ret
        exact ⟨retI HR.out.symm, rfl⟩
theorem Good_yes {l : Int} (h : goodB l = true) (w : World) : Calls Try.prog 48 #[.int .i64 l] w fun e w' => e = .returned (.bool true) ∧ w = w' := by
  have := Good_any l w; rw [h] at this; exact this
theorem Good_no {l : Int} (h : goodB l = false) (w : World) : Calls Try.prog 48 #[.int .i64 l] w fun e w' => e = .returned (.bool false) ∧ w = w' := by
  have := Good_any l w; rw [h] at this; exact this
theorem Var_any (l : Int) (w : World) : Calls Try.prog 28 #[.int .i64 l] w fun e w' => e = .returned (.int .i64 (litVar l)) ∧ w = w' := by
  cases h : goodB l with
  | false =>
    have HR := Lib.hid (var_no h)
    have HG := Lib.hid h
    clear h
    go_enter Try.func28, Try.ntmps28
    go_wp2_with (go_at_call 48; refine (Good_no HG.out _).mono ?_; rintro e w' ⟨rfl, rfl⟩)
    go_ret
    exact ⟨retI HR.out.symm, rfl⟩
  | true =>
    have HR := Lib.hid (var_yes h)
    have HG := Lib.hid h
    obtain ⟨h0, h1⟩ := good_iff.1 h
    clear h
    go_enter Try.func28, Try.ntmps28
    go_wp2_with (go_at_call 48; refine (Good_yes HG.out _).mono ?_; rintro e w' ⟨rfl, rfl⟩)
    go_ret
    exact ⟨retI HR.out.symm, rfl⟩
theorem Neg_any (l : Int) (w : World) : Calls Try.prog 49 #[.int .i64 l] w fun e w' => e = .returned (.bool (litNeg l)) ∧ w = w' := by
  cases h : goodB l with
  | false =>
    have HR := Lib.hid (neg_no h)
    have HG := Lib.hid h
    clear h
    go_enter Try.func49, Try.ntmps49
    go_wp2_with (go_at_call 48; refine (Good_no HG.out _).mono ?_; rintro e w' ⟨rfl, rfl⟩)
    go_ret
    exact ⟨retB HR.out.symm, rfl⟩
  | true =>
    obtain ⟨h0, h1⟩ := good_iff.1 h
    have HG := Lib.hid h
    by_cases h2 : l % 2 = 1
    · have HR := Lib.hid (neg_odd h h2)
      have c : (l % 2 == 1) = true := by simp [h2]
      clear h h2
      go_enter Try.func49, Try.ntmps49
      go_wp2_with (go_at_call 48; refine (Good_yes HG.out _).mono ?_; rintro e w' ⟨rfl, rfl⟩)
      go_ret
      exact ⟨retB HR.out.symm, rfl⟩
    · have HR := Lib.hid (neg_even h (by omega))
      have c : (l % 2 == 1) = false := by simp [h2]
      clear h h2
      go_enter Try.func49, Try.ntmps49
      go_wp2_with (go_at_call 48; refine (Good_yes HG.out _).mono ?_; rintro e w' ⟨rfl, rfl⟩)
      go_ret
      exact ⟨retB HR.out.symm, rfl⟩

theorem Not_any (l : Int) (w : World) : Calls Try.prog 50 #[.int .i64 l] w fun e w' => e = .returned (.int .i64 (litNot l)) ∧ w = w' := by
  have HR := Lib.hid (not_of l)
  go_enter Try.func50, Try.ntmps50
  go_wp2_with fail
  go_at_call 28; refine (Var_any _ _).mono ?_; rintro e w' ⟨rfl, rfl⟩
  go_wp2_with fail
  go_at_call 49; refine (Neg_any _ _).mono ?_; rintro e w' ⟨rfl, rfl⟩
  go_wp2_with fail
  go_at_call 27; refine (Of_any _ _ _).mono ?_; rintro e w' ⟨rfl, rfl⟩
  go_wp2_with fail
  go_ret
  exact ⟨retI HR.out.symm, rfl⟩
end Go.Proofs.Ytbpjflghkkkenaa.lits

/- Whether a circuit's numbers are in range. -/
namespace Go.Proofs.Ytbpjflghkkkenaa.row
set_option maxRecDepth 100000
open Go.RowKit
open Go.Proofs.Ytbpjflghkkkenaa.aig (Only)
open Go.Proofs.Ytbpjflghkkkenaa.fns Go.Proofs.Ytbpjflghkkkenaa
open Go.Proofs.Ytbpjflghkkkenaa.ints (retB)

theorem below_of_only {w w' : World} {P : Nat → Prop} (h : Only P w w') (hP : ∀ k, ¬ P k) : Below w.heap.size w w' := ⟨h.os, h.tape, h.output, h.size, fun k hk => h.block k hk (hP k)⟩
/-- a predicate that has no state -/
def pureS (p : Int → Bool) : Unit → Int → Bool × Unit := fun _ x => (p x, ())
theorem all_pure (p : Int → Bool) : ∀ (l : List Int), allS (pureS p) () l = (l.all p, ()) := by
  intro l
  induction l with
  | nil => rfl
  | cons x l ih =>
    rw [allS_cons, List.all_cons]
    show (if p x = true then allS (pureS p) () l else (false, ())) = _
    rw [ih]
    cases p x <;> simp
def pureT (p : Tri → Bool) : Unit → Tri → Bool × Unit := fun _ x => (p x, ())
theorem all_pureT (p : Tri → Bool) : ∀ (l : List Tri), allS (pureT p) () l = (l.all p, ()) := by
  intro l
  induction l with
  | nil => rfl
  | cons x l ih =>
    rw [allS_cons, List.all_cons]
    show (if p x = true then allS (pureT p) () l else (false, ())) = _
    rw [ih]
    cases p x <;> simp
def isLitB (m l : Int) : Bool := goodB l && decide (litVar l ≤ m)
def isOwnB (m l : Int) : Bool := (isLitB m l && decide (litVar l > 0)) && !litNeg l
def isResB (t : Tri) : Bool := (decide (t.2.2 = 0) || decide (t.2.2 = 1)) || decide (t.2.2 = t.1)
set_option maxHeartbeats 1600000 in
theorem isLit_acts (P : Nat → Prop) (D : CD) (F : CF) (X : Nat) : Acts P 51 #[.pointer (some ⟨X, 0, none⟩)] (Value.int .i64) (fun _ w => Blk w X (ccells D F)) (fun _ => True) (pureS (isLitB D.max)) := by
  refine ⟨fun s w w' hr hb => hr.on hb, fun _ _ => rfl, fun s x w hr _ => ?_⟩
  show Calls Try.prog 51 #[.int .i64 x, .pointer (some ⟨X, 0, none⟩)] w fun e w' => e = .returned (.bool (isLitB D.max x)) ∧ Blk w' X (ccells D F) ∧ Only P w w'
  have c0 : w.cell? ⟨X, 0, none⟩ = some (.int .i64 D.max) := (hr.cell 0).1
  have hXl := hr.lt
  have hb1 : ∀ q, Below w.heap.size w (w.drewN q) := fun q => Go.Proofs.Ytbpjflghkkkenaa.ints.below_drewN (Below.refl _ _) q
  have HR : Hid (∀ q, Blk (w.drewN q) X (ccells D F) ∧ Only P w (w.drewN q)) := Lib.hid (fun q => ⟨hr.on (hb1 q), only_of (hb1 q)⟩)
  clear hr hb1
  obtain ⟨m, hm⟩ : ∃ m, m = D.max := ⟨_, rfl⟩
  rw [← hm] at c0 ⊢
  clear hm
  cases hg : goodB x with
  | false =>
    have HG := Lib.hid hg
    have HE : Hid (isLitB m x = false) := Lib.hid (by unfold isLitB; rw [hg]; rfl)
    clear hg
    go_enter Try.func51, Try.ntmps51
    go_wp2_with fail
    go_quiet ((first | (go_at_call 48; exact Calls.quiet_of_same ((lits.Good_no HG.out _).mono fun _ _ ⟨h1, h2⟩ => ⟨h1, h2.symm⟩)) | fail))
    go_wp2_with fail
    go_ret
    rw [HE.out]; exact ⟨rfl, HR.out _⟩
  | true =>
    have HG := Lib.hid hg
    have HV := Lib.hid (var_yes hg)
    obtain ⟨v, hv⟩ : ∃ v, v = litVar x := ⟨_, rfl⟩
    have HW := Lib.hid hv
    by_cases hle : v ≤ m
    · have HE : Hid (isLitB m x = true) := Lib.hid (by unfold isLitB; rw [hg, ← hv]; simpa using hle)
      have d1 : decide (v ≤ m) = true := by simpa using hle
      clear hg hv hle
      go_enter Try.func51, Try.ntmps51
      go_wp2_with fail
      go_quiet ((first | (go_at_call 48; exact Calls.quiet_of_same ((lits.Good_yes HG.out _).mono fun _ _ ⟨h1, h2⟩ => ⟨h1, h2.symm⟩)) | (go_at_call 28; exact Calls.quiet_of_same ((lits.Var_any x _).mono fun _ _ ⟨h1, h2⟩ => ⟨h1.trans (by rw [← HW.out]), h2.symm⟩)) | fail))
      go_wp2_with fail
      go_ret
      rw [HE.out]; exact ⟨rfl, HR.out _⟩
    · have HE : Hid (isLitB m x = false) := Lib.hid (by unfold isLitB; rw [hg, ← hv]; simpa using hle)
      have d1 : decide (v ≤ m) = false := by simpa using hle
      clear hg hv hle
      go_enter Try.func51, Try.ntmps51
      go_wp2_with fail
      go_quiet ((first | (go_at_call 48; exact Calls.quiet_of_same ((lits.Good_yes HG.out _).mono fun _ _ ⟨h1, h2⟩ => ⟨h1, h2.symm⟩)) | (go_at_call 28; exact Calls.quiet_of_same ((lits.Var_any x _).mono fun _ _ ⟨h1, h2⟩ => ⟨h1.trans (by rw [← HW.out]), h2.symm⟩)) | fail))
      go_wp2_with fail
      go_ret
      rw [HE.out]; exact ⟨rfl, HR.out _⟩
set_option maxHeartbeats 1600000 in
theorem isOwn_acts (P : Nat → Prop) (D : CD) (F : CF) (X Y : Nat) (hPY : ¬ P Y) : Acts P 52 #[.pointer (some ⟨Y, 0, none⟩)] (Value.int .i64) (fun _ w => Blk w X (ccells D F) ∧ Blk w Y #[fval 51 #[.pointer (some ⟨X, 0, none⟩)]]) (fun _ => True) (pureS (isOwnB D.max)) := by
  refine ⟨fun s w w' hr hb => ⟨hr.1.on hb, hr.2.on hb⟩, fun _ _ => rfl, fun s x w hr _ => ?_⟩
  show Calls Try.prog 52 #[.int .i64 x, .pointer (some ⟨Y, 0, none⟩)] w fun e w' => e = .returned (.bool (isOwnB D.max x)) ∧ (Blk w' X (ccells D F) ∧ Blk w' Y #[fval 51 #[.pointer (some ⟨X, 0, none⟩)]]) ∧ Only P w w'
  have c0 : w.cell? ⟨Y, 0, none⟩ = some (fval 51 #[.pointer (some ⟨X, 0, none⟩)]) := (hr.2.cell 0).1
  have hYl := hr.2.lt
  have HR := Lib.hid hr
  have H : Hid (Calls Try.prog 51 #[.int .i64 x, .pointer (some ⟨X, 0, none⟩)] w fun e w' => e = .returned (.bool (isLitB D.max x)) ∧ Blk w' X (ccells D F) ∧ Only P w w') := Lib.hid ((isLit_acts P D F X).run () x w hr.1 trivial)
  have HPY := Lib.hid hPY
  clear hr hPY
  have hv := @var_yes x
  have hdef : isOwnB D.max x = ((isLitB D.max x && decide (litVar x > 0)) && !litNeg x) := rfl
  obtain ⟨b1, hb1⟩ : ∃ b1, b1 = isLitB D.max x := ⟨_, rfl⟩
  obtain ⟨r, hr⟩ : ∃ r, r = isOwnB D.max x := ⟨_, rfl⟩
  rw [← hb1] at H hdef
  rw [← hr] at hdef ⊢
  obtain ⟨v, hv2⟩ : ∃ v, v = litVar x := ⟨_, rfl⟩
  obtain ⟨g, hg⟩ : ∃ g, g = litNeg x := ⟨_, rfl⟩
  rw [← hv2, ← hg] at hdef
  have HV := Lib.hid hv2
  have HG := Lib.hid hg
  have HD := Lib.hid hdef
  clear hb1 hr hv hv2 hg hdef
  cases b1 with
  | false =>
    go_enter Try.func52, Try.ntmps52
    go_wp2_with fail
    go_at_call 51; refine H.out.mono ?_; rintro e w1 ⟨rfl, r1, o1⟩
    have HX := Lib.hid (And.intro (And.intro r1 (HR.out.2.only HPY.out o1)) o1)
    clear r1 o1
    go_wp2_with fail
    go_ret
    rw [HD.out]; exact ⟨rfl, HX.out⟩
  | true =>
    by_cases hp : v > 0
    · have d1 : decide (v > 0) = true := by simpa using hp
      have HP := Lib.hid d1
      cases g with
      | false =>
        go_enter Try.func52, Try.ntmps52
        go_wp2_with fail
        go_at_call 51; refine H.out.mono ?_; rintro e w1 ⟨rfl, r1, o1⟩
        have HX := Lib.hid (And.intro (And.intro r1 (HR.out.2.only HPY.out o1)) o1)
        clear r1 o1
        go_wp2_with fail
        go_at_call 28; refine (lits.Var_any x _).mono ?_; rintro e w2 ⟨rfl, rfl⟩
        rw [← HV.out]
        go_wp2_with fail
        go_at_call 49; refine (lits.Neg_any x _).mono ?_; rintro e w2 ⟨rfl, rfl⟩
        rw [← HG.out]
        go_wp2_with fail
        go_ret
        rw [HD.out, HP.out]; exact ⟨rfl, HX.out⟩
      | true =>
        go_enter Try.func52, Try.ntmps52
        go_wp2_with fail
        go_at_call 51; refine H.out.mono ?_; rintro e w1 ⟨rfl, r1, o1⟩
        have HX := Lib.hid (And.intro (And.intro r1 (HR.out.2.only HPY.out o1)) o1)
        clear r1 o1
        go_wp2_with fail
        go_at_call 28; refine (lits.Var_any x _).mono ?_; rintro e w2 ⟨rfl, rfl⟩
        rw [← HV.out]
        go_wp2_with fail
        go_at_call 49; refine (lits.Neg_any x _).mono ?_; rintro e w2 ⟨rfl, rfl⟩
        rw [← HG.out]
        go_wp2_with fail
        go_ret
        rw [HD.out, HP.out]; exact ⟨rfl, HX.out⟩
    · have d1 : decide (v > 0) = false := by simpa using hp
      have HP := Lib.hid d1
      go_enter Try.func52, Try.ntmps52
      go_wp2_with fail
      go_at_call 51; refine H.out.mono ?_; rintro e w1 ⟨rfl, r1, o1⟩
      have HX := Lib.hid (And.intro (And.intro r1 (HR.out.2.only HPY.out o1)) o1)
      clear r1 o1
      go_wp2_with fail
      go_at_call 28; refine (lits.Var_any x _).mono ?_; rintro e w2 ⟨rfl, rfl⟩
      rw [← HV.out]
      go_wp2_with fail
      go_ret
      rw [HD.out, HP.out]; exact ⟨rfl, HX.out⟩
set_option maxHeartbeats 1600000 in
theorem isRes_acts (P : Nat → Prop) : Acts P 53 #[] val3 (fun (_ : Unit) _ => True) (fun _ => True) (pureT isResB) := by
  refine ⟨fun _ _ _ _ _ => trivial, fun _ _ => rfl, fun s x w _ _ => ?_⟩
  show Calls Try.prog 53 #[.agg #[.int .i64 x.1, .int .i64 x.2.1, .int .i64 x.2.2]] w fun e w' => e = .returned (.bool (isResB x)) ∧ True ∧ Only P w w'
  obtain ⟨a, q, r⟩ := x
  show Calls Try.prog 53 #[.agg #[.int .i64 a, .int .i64 q, .int .i64 r]] w fun e w' => e = .returned (.bool ((decide (r = 0) || decide (r = 1)) || decide (r = a))) ∧ True ∧ Only P w w'
  have HO : Hid (Only P w (w.alloc (.cells #[.int .i64 a, .int .i64 q, .int .i64 r] 45))) := Lib.hid (only_of ((Below.refl _ _).alloc (Nat.le_refl _) _))
  by_cases h0 : r = 0
  · subst h0
    go_enter Try.func53, Try.ntmps53
    go_wp2_with fail
    go_ret
    exact ⟨by simp, trivial, HO.out⟩
  · by_cases h1 : r = 1
    · subst h1
      go_enter Try.func53, Try.ntmps53
      go_wp2_with fail
      go_ret
      exact ⟨by simp, trivial, HO.out⟩
    · have e0 : (r == 0) = false := by simpa using h0
      have e1 : (r == 1) = false := by simpa using h1
      have HE : Hid (((decide (r = 0) || decide (r = 1)) || decide (r = a)) = (r == a)) := Lib.hid (by rw [Bool.eq_iff_iff]; simp [h0, h1])
      clear h0 h1
      go_enter Try.func53, Try.ntmps53
      go_wp2_with fail
      go_ret
      exact ⟨by rw [HE.out]; rfl, trivial, HO.out⟩
theorem store_func (w : World) (a : Addr) (fn : Fn) (x y : Array Value) : (store a (.func fn x y)).run Try.prog w = stored Try.prog w a (.func fn x y) Mode.plain := run_store Try.prog w a _ _ rfl
def rangeB (D : CD) : Bool := !c1B D && ((ownedL D).all (isOwnB D.max) && ((useL D).all (isLitB D.max) && D.lats.all isResB))
/-- how a truth is told, with memory made -/
def SaysT (b : Bool) (w : World) (e : Ending) (w' : World) : Prop := e = .returned (.bool b) ∧ Below w.heap.size w w'
set_option maxHeartbeats 6400000 in
theorem inRange_any (D : CD) (F : CF) (P : Nat → Prop) (w : World) (hc : InC P w D F) {b : Bool} (hb : rangeB D = b) : Calls Try.prog 40 #[cval D F] w (SaysT b w) := by
  have hmf : ∀ (fn : Fn) (first cap : Array Value) (w : World), (Instr.makeFunc fn first cap).run Try.prog w = .ok (.func fn first cap) w := fun _ _ _ _ => rfl
  have X0 := blk_new w (ccells D F) 27
  have B0 : Below w.heap.size w (w.alloc (.cells (ccells D F) 27)) := (Below.refl _ _).alloc (Nat.le_refl _) _
  have HC := Lib.hid (hc.weak (Q := fun _ => False) (fun _ _ e => e.elim) |>.on B0)
  obtain ⟨v, hv⟩ : ∃ v, v = w.alloc (.cells (ccells D F) 27) := ⟨_, rfl⟩
  have HVW := Lib.hid hv
  rw [← hv] at X0 B0 HC
  have HX := Lib.hid X0
  have HB := Lib.hid B0
  have HR := Lib.hid hb
  obtain ⟨X, hX⟩ : ∃ X, X = w.heap.size := ⟨_, rfl⟩
  have HXW := Lib.hid hX
  rw [← hX] at HX
  clear X0 B0 hc hb hv hX
  go_enter Try.func40, Try.ntmps40
  go_upto_region 1 with fail
  rw [← HVW.out, ← HXW.out]
  have c0 : v.cell? ⟨X, 0, none⟩ = some (.int .i64 D.max) := (HX.out.cell 0).1
  have lX := HX.out.lt
  have hdef : rangeB D = (!c1B D && ((ownedL D).all (isOwnB D.max) && ((useL D).all (isLitB D.max) && D.lats.all isResB))) := rfl
  have h1def : c1B D = (decide (D.max < 0) || decide (D.max > 16777216)) := rfl
  by_cases m0 : D.max < 0
  · obtain rfl : false = b := by rw [← HR.out, hdef, h1def]; simp [m0]
    have d0 : decide (D.max < 0) = true := by simpa using m0
    have HT : Hid (SaysT false w (.returned (.bool false)) v) := Lib.hid ⟨rfl, HB.out⟩
    clear m0 hdef h1def
    go_wp2_with fail
    go_ret
    exact HT.out
  · have d0 : decide (D.max < 0) = false := by simpa using m0
    by_cases m1 : D.max > 16777216
    · obtain rfl : false = b := by rw [← HR.out, hdef, h1def]; simp [m1]
      have d1 : decide (D.max > 16777216) = true := by simpa using m1
      have HT : Hid (SaysT false w (.returned (.bool false)) v) := Lib.hid ⟨rfl, HB.out⟩
      clear m0 m1 hdef h1def
      go_wp2_with fail
      go_ret
      exact HT.out
    · have d1 : decide (D.max > 16777216) = false := by simpa using m1
      have hdef2 : rangeB D = ((ownedL D).all (isOwnB D.max) && ((useL D).all (isLitB D.max) && D.lats.all isResB)) := by rw [hdef, h1def, d0, d1]; rfl
      have HDF := Lib.hid hdef2
      clear m0 m1 hdef h1def hdef2
      -- the closures
      obtain ⟨v2, hv2⟩ : ∃ v2, v2 = v.alloc (.cells #[fval 51 #[.pointer (some ⟨X, 0, none⟩)]] 68) := ⟨_, rfl⟩
      have b2 : Below v.heap.size v v2 := by rw [hv2]; exact (Below.refl _ _).alloc (Nat.le_refl _) _
      have y2 : Blk v2 v.heap.size #[fval 51 #[.pointer (some ⟨X, 0, none⟩)]] := by rw [hv2]; exact blk_new v _ _
      obtain ⟨Y, hY⟩ : ∃ Y, Y = v.heap.size := ⟨_, rfl⟩
      have HX2 := Lib.hid (HX.out.on b2)
      have HC2 := Lib.hid (HC.out.on b2)
      have HB2 := Lib.hid (HB.out.trans (b2.mono HB.out.size))
      have HV2 := Lib.hid hv2
      rw [← hY] at y2
      have HY2 := Lib.hid y2
      have HYW := Lib.hid hY
      have kX : v2.cell? ⟨X, 0, none⟩ = some (.int .i64 D.max) := (HX2.out.cell 0).1
      clear b2 y2 hv2 hY c0 lX
      have k0 : v2.cell? ⟨X, 0, none⟩ = some (.int .i64 D.max) := (HX2.out.cell 0).1
      have k1 : v2.cell? ⟨X, 1, none⟩ = some (.slice F.ai D.ins.length F.ci) := (HX2.out.cell 1).1
      have k2 : v2.cell? ⟨X, 2, none⟩ = some (.slice F.al D.lats.length F.cl) := (HX2.out.cell 2).1
      have k3 : v2.cell? ⟨X, 3, none⟩ = some (.slice F.ao D.outs.length F.co) := (HX2.out.cell 3).1
      have k4 : v2.cell? ⟨X, 4, none⟩ = some (.slice F.ab D.bads.length F.cb) := (HX2.out.cell 4).1
      have k5 : v2.cell? ⟨X, 5, none⟩ = some (.slice F.ac D.cons.length F.cc) := (HX2.out.cell 5).1
      have k6 : v2.cell? ⟨X, 6, none⟩ = some (.slice F.ag D.gates.length F.cg) := (HX2.out.cell 6).1
      have k7 : v2.cell? ⟨X, 7, none⟩ = some (.slice F.as_ D.syms.length F.cs) := (HX2.out.cell 7).1
      have k8 : v2.cell? ⟨X, 8, none⟩ = some (.string D.com) := (HX2.out.cell 8).1
      have lX := HX2.out.lt
      have lY := HY2.out.lt
      have c0 : v.cell? ⟨X, 0, none⟩ = some (.int .i64 D.max) := (HX.out.cell 0).1
      have lX0 := HX.out.lt
      have hst := store_func
      go_upto_region 6 with fail
      rw [← HV2.out, ← HYW.out]
      have HS1 := Lib.hid (all_pure (isOwnB D.max) (ownedL D))
      have HS2 := Lib.hid (all_pure (isLitB D.max) (useL D))
      have HS3 := Lib.hid (all_pureT isResB D.lats)
      obtain ⟨a1, ha1⟩ : ∃ a1, a1 = (ownedL D).all (isOwnB D.max) := ⟨_, rfl⟩
      obtain ⟨a2, ha2⟩ : ∃ a2, a2 = (useL D).all (isLitB D.max) := ⟨_, rfl⟩
      obtain ⟨a3, ha3⟩ : ∃ a3, a3 = D.lats.all isResB := ⟨_, rfl⟩
      rw [← ha1] at HS1 HDF
      rw [← ha2] at HS2 HDF
      rw [← ha3] at HS3 HDF
      clear ha1 ha2 ha3 c0 lX0 hst
      have HBV : Hid (∀ u, Only (fun _ => False) v2 u → Below w.heap.size w u) := Lib.hid (fun u o => HB2.out.trans ((below_of_only o (fun _ e => e)).mono HB2.out.size))
      cases a1 with
      | false =>
        obtain rfl : false = b := by rw [← HR.out, HDF.out]; rfl
        go_wp2_with fail
        go_at_call 41; refine (everyLit_any (isOwn_acts (fun _ => False) D F X Y (fun e => e)) D F _ () HC2.out (fun _ _ => trivial) ⟨HX2.out, HY2.out⟩ (fun _ e => e.elim) HS1.out).mono ?_; rintro e w1 ⟨rfl, r1, o1⟩
        have HT : Hid (SaysT false w (.returned (.bool false)) w1) := Lib.hid ⟨rfl, HBV.out _ o1⟩
        clear r1 o1
        go_wp2_with fail
        go_ret
        exact HT.out
      | true =>
        go_wp2_with fail
        go_at_call 41; refine (everyLit_any (isOwn_acts (fun _ => False) D F X Y (fun e => e)) D F _ () HC2.out (fun _ _ => trivial) ⟨HX2.out, HY2.out⟩ (fun _ e => e.elim) HS1.out).mono ?_; rintro e w1 ⟨rfl, ⟨r1, r2⟩, o1⟩
        have HX3 := Lib.hid r1
        have HY3 := Lib.hid r2
        have HO3 := Lib.hid o1
        have HC3 := Lib.hid (HC2.out.only o1)
        clear r1 r2 o1 k0 k1 k2 k3 k4 k5 k6 k7 k8 kX lX lY
        have k0 : w1.cell? ⟨X, 0, none⟩ = some (.int .i64 D.max) := (HX3.out.cell 0).1
        have k1 : w1.cell? ⟨X, 1, none⟩ = some (.slice F.ai D.ins.length F.ci) := (HX3.out.cell 1).1
        have k2 : w1.cell? ⟨X, 2, none⟩ = some (.slice F.al D.lats.length F.cl) := (HX3.out.cell 2).1
        have k3 : w1.cell? ⟨X, 3, none⟩ = some (.slice F.ao D.outs.length F.co) := (HX3.out.cell 3).1
        have k4 : w1.cell? ⟨X, 4, none⟩ = some (.slice F.ab D.bads.length F.cb) := (HX3.out.cell 4).1
        have k5 : w1.cell? ⟨X, 5, none⟩ = some (.slice F.ac D.cons.length F.cc) := (HX3.out.cell 5).1
        have k6 : w1.cell? ⟨X, 6, none⟩ = some (.slice F.ag D.gates.length F.cg) := (HX3.out.cell 6).1
        have k7 : w1.cell? ⟨X, 7, none⟩ = some (.slice F.as_ D.syms.length F.cs) := (HX3.out.cell 7).1
        have k8 : w1.cell? ⟨X, 8, none⟩ = some (.string D.com) := (HX3.out.cell 8).1
        have kf : w1.cell? ⟨Y, 0, none⟩ = some (fval 51 #[.pointer (some ⟨X, 0, none⟩)]) := (HY3.out.cell 0).1
        have lX := HX3.out.lt
        have lY := HY3.out.lt
        cases a2 with
        | false =>
          obtain rfl : false = b := by rw [← HR.out, HDF.out]; rfl
          go_wp2_with fail
          go_at_call 45; refine (everyUse_any (isLit_acts (fun _ => False) D F X) D F _ () HC3.out (fun _ _ => trivial) HX3.out (fun _ e => e.elim) HS2.out).mono ?_; rintro e w2 ⟨rfl, r1, o1⟩
          have HT : Hid (SaysT false w (.returned (.bool false)) w2) := Lib.hid ⟨rfl, HBV.out _ (only_tr HO3.out o1)⟩
          clear r1 o1
          go_wp2_with fail
          go_ret
          exact HT.out
        | true =>
          obtain rfl : a3 = b := by rw [← HR.out, HDF.out]; rfl
          go_wp2_with fail
          go_at_call 45; refine (everyUse_any (isLit_acts (fun _ => False) D F X) D F _ () HC3.out (fun _ _ => trivial) HX3.out (fun _ e => e.elim) HS2.out).mono ?_; rintro e w2 ⟨rfl, r1, o1⟩
          have HX4 := Lib.hid r1
          have HO4 := Lib.hid (only_tr HO3.out o1)
          have HC4 := Lib.hid (HC3.out.only o1)
          clear r1 o1 k0 k1 k2 k3 k4 k5 k6 k7 k8 kf lX lY
          have k2 : w2.cell? ⟨X, 2, none⟩ = some (.slice F.al D.lats.length F.cl) := (HX4.out.cell 2).1
          have lX := HX4.out.lt
          go_wp2_with fail
          go_at_call 54; refine (every_latch (isRes_acts (fun _ => False)) _ D.lats _ () HS3.out HC4.out.l (fun _ _ => trivial) trivial (fun _ e => e.elim)).mono ?_; rintro e w3 ⟨rfl, r1, o1⟩
          have HT : Hid (SaysT a3 w (.returned (.bool a3)) w3) := Lib.hid ⟨rfl, HBV.out _ (only_tr HO4.out o1)⟩
          clear r1 o1
          go_wp2_with fail
          go_ret
          exact HT.out
end Go.Proofs.Ytbpjflghkkkenaa.row
