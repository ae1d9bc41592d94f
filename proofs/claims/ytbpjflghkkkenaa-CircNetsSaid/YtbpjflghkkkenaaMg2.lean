import Derived.Test.YtbpjflghkkkenaaProg
import Derived.Test.YtbpjflghkkkenaaMg1
import Derived.Deep.AppendLies
import Derived.Deep.DeepCutAuto
import Derived.Lib.SmallJoins
import Derived.BigRegion
import Derived.WalkKit
import Derived.Handy
import Derived.Outline
import Derived.Below
import Derived.Laws.Externs
import Derived.Laws.Cover2
import Derived.Laws.FloatArith
import Derived.Laws.BitsAllLaws
/- A heap in memory: its three fields, and the rows that they point at. -/
namespace Go.Proofs.Ytbpjflghkkkenaa.heap
open Go.RowKit
open Go.Proofs.Ytbpjflghkkkenaa.fns Go.Proofs.Ytbpjflghkkkenaa.hpf Go.Proofs.Ytbpjflghkkkenaa.ints

def fcells (l : List Nat) : List Value := l.map (Value.float .f64)
def ncells (l : List Nat) : List Value := l.map fun x : Nat => Value.int .i64 (x : Int)
theorem fcells_at {l : List Nat} {k : Nat} (h : k < l.length) : (fcells l)[k]? = some (.float .f64 (l.getD k 0)) := by
  unfold fcells; rw [List.getElem?_map, List.getElem?_eq_getElem h]; simp [List.getD, h]
theorem ncells_at {l : List Nat} {k : Nat} (h : k < l.length) : (ncells l)[k]? = some (.int .i64 (l.getD k 0 : Nat)) := by
  unfold ncells; rw [List.getElem?_map, List.getElem?_eq_getElem h]; simp [List.getD, h]
theorem fcells_set (l : List Nat) (k y : Nat) : (fcells l).set k (.float .f64 y) = fcells (l.set k y) := by unfold fcells; rw [List.map_set]
theorem ncells_set (l : List Nat) (k y : Nat) : (ncells l).set k (.int .i64 (y : Int)) = ncells (l.set k y) := by unfold ncells; rw [List.map_set]
theorem fcells_len (l : List Nat) : (fcells l).length = l.length := by simp [fcells]
theorem ncells_len (l : List Nat) : (ncells l).length = l.length := by simp [ncells]

/-- a heap at g: of n things, their scores' row s, their places' row p, the tree tv; all of it lies from A on, the tree from B on -/
structure Hp (A B : Nat) (w : World) (g s p : Nat) (tv : Value) (n : Nat) (S P T : List Nat) : Prop where
  obj : ∃ t, w.heap[g]? = some (.cells #[.slice (some ⟨s, 0, none⟩) n n, .slice (some ⟨p, 0, none⟩) n n, tv] t (0, 0))
  sc : w.ownsRow A 108 1 (.slice (some ⟨s, 0, none⟩) n n) n (fcells S)
  pl : w.ownsRow A 3 1 (.slice (some ⟨p, 0, none⟩) n n) n (ncells P)
  tr : w.ownsRow B 3 1 tv T.length (ncells T)
  lay : A ≤ g ∧ g ≠ s ∧ g ≠ p ∧ s ≠ p ∧ g < B ∧ s < B ∧ p < B ∧ B ≤ w.heap.size
theorem grown_of_below {w w' : World} (h : Below w.heap.size w w') : w.grownBy w' none := ⟨h.os, h.tape, h.output, h.size, fun k hk _ => h.block k hk⟩
theorem own_apart {v : Value} {w : World} {B t n : Nat} {e : TypeId} {xs : List Value} (h : w.ownsRow B e 1 v n xs) (ht : t < B) : v.ownBlock = none ∨ v.ownBlock ≠ some t := by
  cases hv : v.ownBlock with
  | none => exact .inl rfl
  | some k =>
    have := (h.lt k hv).1
    exact .inr (fun e => by cases e; omega)
section
variable {A B : Nat} {w w' : World} {g s p t m c n : Nat} {tv : Value} {S P T : List Nat}
theorem Hp.on (h : Hp A B w g s p tv n S P T) (hb : Below w.heap.size w w') : Hp A B w' g s p tv n S P T := by
  have hg := grown_of_below hb
  obtain ⟨t, ho⟩ := h.obj
  obtain ⟨l1, l2, l3, l4, l5, l6, l7, l8⟩ := h.lay
  exact ⟨⟨t, (hb.block g (by omega)).trans ho⟩, h.sc.kept hg (.inr (by simp [Value.ownBlock])), h.pl.kept hg (.inr (by simp [Value.ownBlock])),
    h.tr.kept hg (by cases tv.ownBlock <;> simp), l1, l2, l3, l4, l5, l6, l7, Nat.le_trans l8 hb.size⟩
theorem Hp.drewN (h : Hp A B w g s p tv n S P T) (q : Nat) : Hp A B (w.drewN q) g s p tv n S P T := h.on (below_drewN (Below.refl _ _) q)
theorem Hp.lens (h : Hp A B w g s p tv n S P T) : S.length = n ∧ P.length = n := by
  have a := h.sc.1; have b := h.pl.1
  rw [fcells_len] at a
  rw [ncells_len] at b
  omega
theorem Hp.len (h : Hp A B w g s p (.slice (some ⟨t, 0, none⟩) m c) n S P T) : T.length = m ∧ m ≤ c ∧ c ≤ maxLen ∧ B ≤ t ∧ t < w.heap.size := by
  have hl := h.tr.lt t rfl
  rcases h.tr.2 with ⟨e, -⟩ | ⟨g', cap, cur, e, e1, e2, e3, e4, -⟩
  · cases e
  · cases e; exact ⟨rfl, e3, e4, hl⟩
theorem Hp.form (h : Hp A B w g s p tv n S P T) (hp : 0 < T.length) : ∃ t c, tv = .slice (some ⟨t, 0, none⟩) T.length c := by
  obtain ⟨t, c, e, -⟩ := h.tr.form hp
  exact ⟨t, c, e⟩
theorem Hp.low (h : Hp A B w g s p tv n S P T) : A ≤ g ∧ A ≤ s ∧ A ≤ p ∧ A ≤ B ∧ B ≤ w.heap.size := by
  have a := (h.sc.lt s rfl).1; have b := (h.pl.lt p rfl).1
  obtain ⟨l1, l2, l3, l4, l5, l6, l7, l8⟩ := h.lay
  omega
theorem Hp.cG (h : Hp A B w g s p tv n S P T) : w.cell? ⟨g, 0, none⟩ = some (.slice (some ⟨s, 0, none⟩) n n) ∧ w.cell? ⟨g, 1, none⟩ = some (.slice (some ⟨p, 0, none⟩) n n) ∧
    w.cell? ⟨g, 2, none⟩ = some tv ∧ w.frozen? ⟨g, 2, none⟩ = false := by
  obtain ⟨t, ho⟩ := h.obj
  exact ⟨Joins.cell_of_block ho 0, Joins.cell_of_block ho 1, Joins.cell_of_block ho 2, Joins.unfrozen_of_block ho 2⟩
theorem Hp.cT (h : Hp A B w g s p (.slice (some ⟨t, 0, none⟩) m c) n S P T) {i : Nat} (hi : i < T.length) :
    w.cell? ⟨t, i, none⟩ = some (.int .i64 (T.getD i 0 : Nat)) ∧ w.frozen? ⟨t, i, none⟩ = false := by
  have hl := h.len.1
  have htr := h.tr
  rw [hl] at htr
  exact ⟨by rw [htr.cellAt i (by omega), ncells_at hi], htr.frozenAt i⟩
theorem Hp.cP (h : Hp A B w g s p tv n S P T) {x : Nat} (hx : x < n) : w.cell? ⟨p, x, none⟩ = some (.int .i64 (P.getD x 0 : Nat)) ∧ w.frozen? ⟨p, x, none⟩ = false :=
  ⟨by rw [h.pl.cellAt x (by omega), ncells_at (by rw [h.lens.2]; exact hx)], h.pl.frozenAt x⟩
theorem Hp.cS (h : Hp A B w g s p tv n S P T) {x : Nat} (hx : x < n) : w.cell? ⟨s, x, none⟩ = some (.float .f64 (S.getD x 0)) ∧ w.frozen? ⟨s, x, none⟩ = false :=
  ⟨by rw [h.sc.cellAt x (by omega), fcells_at (by rw [h.lens.1]; exact hx)], h.sc.frozenAt x⟩
theorem Hp.setT (h : Hp A B w g s p (.slice (some ⟨t, 0, none⟩) m c) n S P T) (i x : Nat) :
    Hp A B (w.setCell ⟨t, i, none⟩ (.int .i64 (x : Int))) g s p (.slice (some ⟨t, 0, none⟩) m c) n S P (T.set i x) := by
  obtain ⟨hl, -, -, hB, -⟩ := h.len
  have htr := h.tr
  rw [hl] at htr
  obtain ⟨hs, hg⟩ := htr.stored i (.int .i64 (x : Int))
  obtain ⟨l1, l2, l3, l4, l5, l6, l7, l8⟩ := h.lay
  obtain ⟨ty, ho⟩ := h.obj
  refine ⟨⟨ty, (hg.block g (by omega) (fun e => by cases e; omega)).trans ho⟩, h.sc.kept hg (.inr ?_), h.pl.kept hg (.inr ?_), ?_, l1, l2, l3, l4, l5, l6, l7, Nat.le_trans l8 hg.size⟩
  · simp [Value.ownBlock]; omega
  · simp [Value.ownBlock]; omega
  · rw [List.length_set, hl]
    rw [ncells_set] at hs
    exact hs
theorem Hp.setP (h : Hp A B w g s p tv n S P T) (i x : Nat) : Hp A B (w.setCell ⟨p, i, none⟩ (.int .i64 (x : Int))) g s p tv n S (P.set i x) T := by
  obtain ⟨hs, hg⟩ := h.pl.stored i (.int .i64 (x : Int))
  obtain ⟨l1, l2, l3, l4, l5, l6, l7, l8⟩ := h.lay
  obtain ⟨ty, ho⟩ := h.obj
  refine ⟨⟨ty, (hg.block g (by omega) (fun e => by cases e; omega)).trans ho⟩, h.sc.kept hg (.inr ?_), ?_, h.tr.kept hg (own_apart h.tr l7), l1, l2, l3, l4, l5, l6, l7, Nat.le_trans l8 hg.size⟩
  · simp [Value.ownBlock]; omega
  · rw [ncells_set] at hs
    exact hs
theorem Hp.setS (h : Hp A B w g s p tv n S P T) (i x : Nat) : Hp A B (w.setCell ⟨s, i, none⟩ (.float .f64 x)) g s p tv n (S.set i x) P T := by
  obtain ⟨hs, hg⟩ := h.sc.stored i (.float .f64 x)
  obtain ⟨l1, l2, l3, l4, l5, l6, l7, l8⟩ := h.lay
  obtain ⟨ty, ho⟩ := h.obj
  refine ⟨⟨ty, (hg.block g (by omega) (fun e => by cases e; omega)).trans ho⟩, ?_, h.pl.kept hg (.inr ?_), h.tr.kept hg (own_apart h.tr l6), l1, l2, l3, l4, l5, l6, l7, Nat.le_trans l8 hg.size⟩
  · rw [fcells_set] at hs
    exact hs
  · simp [Value.ownBlock]; omega
/-- another tree is put in the old one's place -/
theorem Hp.setO (h : Hp A B w g s p tv n S P T) {w1 : World} {row : Option Nat} {tv' : Value} {T' : List Nat} (hg : w.grownBy w1 row) (hr : row = none ∨ ∃ k, row = some k ∧ B ≤ k)
    (ht : w1.ownsRow B 3 1 tv' T'.length (ncells T')) : Hp A B (w1.setCell ⟨g, 2, none⟩ tv') g s p tv' n S P T' := by
  obtain ⟨l1, l2, l3, l4, l5, l6, l7, l8⟩ := h.lay
  obtain ⟨ty, ho⟩ := h.obj
  have hn : ∀ k, k < B → some k ≠ row := by
    intro k hk e
    rcases hr with e' | ⟨k', e', hB⟩
    · rw [e'] at e; cases e
    · rw [e'] at e; cases e; omega
  have ho1 : w1.heap[g]? = _ := (hg.block g (by omega) (hn g l5)).trans ho
  have h2 : w1.grownBy (w1.setCell ⟨g, 2, none⟩ tv') (some g) :=
    ⟨rfl, rfl, rfl, by simp, fun k _ hk => heap_setCell_other w1 ⟨g, 2, none⟩ k tv' (fun e => hk (by simp [e]))⟩
  have s1 := h.sc.kept hg (.inr (fun e => hn s l6 (by rw [← e]; rfl)))
  have p1 := h.pl.kept hg (.inr (fun e => hn p l7 (by rw [← e]; rfl)))
  refine ⟨⟨ty, ?_⟩, s1.kept h2 (.inr ?_), p1.kept h2 (.inr ?_), ht.kept h2 (own_apart ht l5), l1, l2, l3, l4, l5, l6, l7, Nat.le_trans l8 (Nat.le_trans hg.size h2.size)⟩
  · have := Joins.block_setCell (i := 2) ho1 tv'
    simpa using this
  · simp [Value.ownBlock]; omega
  · simp [Value.ownBlock]; omega
end

/-- a block of one cell, known whole -/
def One (w : World) (g : Nat) (x : Value) : Prop := ∃ t, w.heap[g]? = some (.cells #[x] t (0, 0))
theorem One.lt {w : World} {g : Nat} {x : Value} (h : One w g x) : g < w.heap.size := by
  obtain ⟨t, h⟩ := h; exact (Array.getElem?_eq_some_iff.1 h).1
theorem One.cells {w : World} {g : Nat} {x : Value} (h : One w g x) : w.cell? ⟨g, 0, none⟩ = some x ∧ w.frozen? ⟨g, 0, none⟩ = false := by
  obtain ⟨t, h⟩ := h
  exact ⟨Joins.cell_of_block h 0, Joins.unfrozen_of_block h 0⟩
theorem One.on {w w' : World} {B g : Nat} {x : Value} (h : One w g x) (hb : Below B w w') (hB : g < B) : One w' g x := by
  obtain ⟨t, h⟩ := h
  exact ⟨t, (hb.block g hB).trans h⟩
theorem one_new (w : World) (x : Value) (t : TypeId) : One (w.alloc (.cells #[x] t)) w.heap.size x :=
  ⟨t, by show (w.heap.push _)[w.heap.size]? = _; rw [Array.getElem?_push, if_pos rfl]⟩
theorem One.other {w : World} {g h i : Nat} {x : Value} (ht : One w g x) (hne : g ≠ h) (v : Value) : One (w.setCell ⟨h, i, none⟩ v) g x := by
  obtain ⟨t, ht⟩ := ht
  exact ⟨t, (Below.heap_setCell w ⟨h, i, none⟩ v g hne).trans ht⟩
theorem One.drewN {w : World} {g : Nat} {x : Value} (h : One w g x) (q : Nat) : One (w.drewN q) g x := h

/-- w' is as w was, but for the blocks t and p, and what is new -/
structure Off (t p : Nat) (w w' : World) : Prop where
  os : w'.os = w.os
  tape : w'.tape = w.tape
  output : w'.output = w.output
  size : w.heap.size ≤ w'.heap.size
  block : ∀ k, k < w.heap.size → k ≠ t → k ≠ p → w'.heap[k]? = w.heap[k]?
theorem Off.refl (t p : Nat) (w : World) : Off t p w w := ⟨rfl, rfl, rfl, Nat.le_refl _, fun _ _ _ _ => rfl⟩
theorem Off.trans {t p : Nat} {a b c : World} (h : Off t p a b) (k : Off t p b c) : Off t p a c :=
  ⟨k.os.trans h.os, k.tape.trans h.tape, k.output.trans h.output, Nat.le_trans h.size k.size, fun i hi h1 h2 => (k.block i (Nat.lt_of_lt_of_le hi h.size) h1 h2).trans (h.block i hi h1 h2)⟩
theorem Off.drewN {t p : Nat} {a b : World} (h : Off t p a b) (q : Nat) : Off t p a (b.drewN q) := ⟨h.os, h.tape, h.output, h.size, h.block⟩
theorem Off.set {t p b i : Nat} {w w' : World} (h : Off t p w w') (hb : b = t ∨ b = p) (v : Value) : Off t p w (w'.setCell ⟨b, i, none⟩ v) := by
  have k := (Below.refl b w').setCell (p := ⟨b, i, none⟩) (Nat.le_refl _) v
  exact ⟨k.os.trans h.os, k.tape.trans h.tape, k.output.trans h.output, Nat.le_trans h.size k.size,
    fun j hj h1 h2 => (Below.heap_setCell w' ⟨b, i, none⟩ v j (by show j ≠ b; omega)).trans (h.block j hj h1 h2)⟩
theorem Off.below {t p A : Nat} {w w' : World} (h : Off t p w w') (ht : A ≤ t) (hp : A ≤ p) (hs : A ≤ w.heap.size) : Below A w w' :=
  ⟨h.os, h.tape, h.output, h.size, fun k hk => h.block k (by omega) (by omega) (by omega)⟩
theorem off_of_below {t p : Nat} {w w' : World} (h : Below w.heap.size w w') : Off t p w w' := ⟨h.os, h.tape, h.output, h.size, fun k hk _ _ => h.block k hk⟩
theorem Off.one {t p k : Nat} {w w' : World} {x : Value} (h : Off t p w w') (hk : One w k x) (h1 : k ≠ t) (h2 : k ≠ p) : One w' k x := by
  have hl := hk.lt
  obtain ⟨ty, hk⟩ := hk
  exact ⟨ty, (h.block k hl h1 h2).trans hk⟩
end Go.Proofs.Ytbpjflghkkkenaa.heap

/- The walk of heap's swap. -/
namespace Go.Proofs.Ytbpjflghkkkenaa.heap
open Go.RowKit
open Go.Proofs.Ytbpjflghkkkenaa.fns Go.Proofs.Ytbpjflghkkkenaa.hpf Go.Proofs.Ytbpjflghkkkenaa.ints

set_option maxHeartbeats 1600000 in
theorem swap_any (A B g s p t m c n i k : Nat) (S P T : List Nat) (w : World) (h : Hp A B w g s p (.slice (some ⟨t, 0, none⟩) m c) n S P T) (hw : Wf n P T) (hi : i < T.length) (hk : k < T.length) (hn : n ≤ 1048576) (hm : m ≤ n) :
    Calls Try.prog 81 #[.pointer (some ⟨g, 0, none⟩), .int .i64 i, .int .i64 k] w fun e w' => e = .returned (.tuple #[]) ∧ Hp A B w' g s p (.slice (some ⟨t, 0, none⟩) m c) n S (swP P T i k) (swT T i k) ∧ Off t p w w' := by
  obtain ⟨hl, hmc, hcm, hBt, -⟩ := h.len
  unfold maxLen at hcm
  have HL := Lib.hid hl
  have hi' : i < m := by omega
  have hk' : k < m := by omega
  have HH := Lib.hid h
  have HW := Lib.hid hw
  obtain ⟨-, -, c2, -⟩ := h.cG
  obtain ⟨x1, f1⟩ := h.cT hi
  obtain ⟨x2, f2⟩ := h.cT hk
  have b1 : (i : Int) < (m : Int) := by omega
  have b2 : (k : Int) < (m : Int) := by omega
  have b3 : 0 ≤ (i : Int) := by omega
  have b4 : 0 ≤ (k : Int) := by omega
  obtain ⟨x, hx⟩ : ∃ x, x = T.getD i 0 := ⟨_, rfl⟩
  obtain ⟨y, hy⟩ : ∃ y, y = T.getD k 0 := ⟨_, rfl⟩
  rw [← hx] at x1
  rw [← hy] at x2
  have h1s := h.setT i y
  obtain ⟨u1, x3⟩ : ∃ u, (w.setCell ⟨t, i, none⟩ (.int .i64 (y : Int))).cell? ⟨t, k, none⟩ = some u := ⟨_, (h1s.cT (i := k) (by rw [List.length_set]; exact hk)).1⟩
  have HS : Hid (Hp A B (((w.setCell ⟨t, i, none⟩ (.int .i64 (y : Int))).setCell ⟨t, k, none⟩ (.int .i64 (x : Int)))) g s p (.slice (some ⟨t, 0, none⟩) m c) n S P (swT T i k)) := Lib.hid (by
    unfold swT
    rw [← hx, ← hy]
    exact h1s.setT k x)
  have HB : Hid (Off t p w ((w.setCell ⟨t, i, none⟩ (.int .i64 (y : Int))).setCell ⟨t, k, none⟩ (.int .i64 (x : Int)))) := Lib.hid (((Off.refl _ _ _).set (.inl rfl) _).set (.inl rfl) _)
  clear h1s hx hy h hw hl
  go_enter Try.func81, Try.ntmps81
  go_upto_region 1 with fail
  go_cut [] (fun wx => Hid (Hp A B wx g s p (.slice (some ⟨t, 0, none⟩) m c) n S P (swT T i k) ∧ Off t p w wx))
  case first =>
    go_region
    go_wp2_with fail
    go_meet
    exact ⟨HS.out.drewN 1, HB.out.drewN 1⟩
  case rest =>
    clear HS HB x1 x2 x3 c2 f1 f2 HH
    have hT := swT_len T i k
    obtain ⟨T', hT'⟩ : ∃ T', T' = swT T i k := ⟨_, rfl⟩
    have HP : Hid (swP P T i k = (P.set (T'.getD i 0) (i + 1)).set (T'.getD k 0) (k + 1)) := Lib.hid (by rw [hT']; rfl)
    have e1 : T'.getD i 0 = T.getD k 0 := by rw [hT']; exact swT_l hi hk
    have e2 : T'.getD k 0 = T.getD i 0 := by rw [hT']; exact swT_r hi hk
    have l1 := (HW.out.at_ k hk).1
    have l2 := (HW.out.at_ i hi).1
    rw [← e1] at l1
    rw [← e2] at l2
    rw [← hT'] at hcut hT
    have hTl : T'.length = m := by rw [hT]; exact HL.out
    obtain ⟨a, ha⟩ : ∃ a, a = T'.getD i 0 := ⟨_, rfl⟩
    obtain ⟨b, hb⟩ : ∃ b, b = T'.getD k 0 := ⟨_, rfl⟩
    have HTL := Lib.hid hTl
    have HA := Lib.hid ha
    have HB := Lib.hid hb
    have HT := Lib.hid hT'
    rw [← ha] at l1 HP
    rw [← hb] at l2 HP
    obtain ⟨hp, hbel⟩ := hcut.out
    obtain ⟨W, rfl⟩ : ∃ W : World, W = wc := ⟨_, rfl⟩
    have hp1 := hp.setP a (i + 1)
    have HP1 := Lib.hid hp1
    have HBL : Hid (Off t p w (W.setCell ⟨p, a, none⟩ (.int .i64 ((i + 1 : Nat) : Int)))) := Lib.hid (hbel.set (.inr rfl) _)
    obtain ⟨-, c1, c2, -⟩ := hp.cG
    obtain ⟨x1, -⟩ := hp.cT (i := i) (by rw [HTL.out]; exact hi')
    rw [← HA.out] at x1
    obtain ⟨x2, f2⟩ := hp.cP l1
    obtain ⟨o1, ho1⟩ : ∃ o1, o1 = ((P.getD a 0 : Nat) : Int) := ⟨_, rfl⟩
    rw [← ho1] at x2
    have d1 : (a : Int) < (n : Int) := by omega
    have d2 : 0 ≤ (a : Int) := by omega
    have d3 : (b : Int) < (n : Int) := by omega
    have d4 : 0 ≤ (b : Int) := by omega
    have d5 : (i : Int) + 1 ≤ 1048577 := by omega
    have d6 : (k : Int) + 1 ≤ 1048577 := by omega
    clear ho1 ha hb hT' hT e1 e2 hTl hp hbel hp1 hcut
    go_upto_region 2 with fail
    go_cut [] (fun wx => Hid (Hp A B wx g s p (.slice (some ⟨t, 0, none⟩) m c) n S (P.set a (i + 1)) T' ∧ Off t p w wx))
    case first =>
      go_region
      go_wp2_with fail
      go_meet
      exact ⟨HP1.out.drewN 1, HBL.out.drewN 1⟩
    case rest =>
      clear HP1 HBL x1 x2 f2 c1 c2
      obtain ⟨hp, hbel⟩ := hcut.out
      obtain ⟨W, rfl⟩ : ∃ W : World, W = wc := ⟨_, rfl⟩
      have hp1 := hp.setP b (k + 1)
      rw [← HP.out, HT.out] at hp1
      have HP1 := Lib.hid hp1
      have HBL : Hid (Off t p w (W.setCell ⟨p, b, none⟩ (.int .i64 ((k + 1 : Nat) : Int)))) := Lib.hid (hbel.set (.inr rfl) _)
      obtain ⟨-, c1, c2, -⟩ := hp.cG
      obtain ⟨x1, -⟩ := hp.cT (i := k) (by rw [HTL.out]; exact hk')
      rw [← HB.out] at x1
      obtain ⟨x2, f2⟩ := hp.cP l2
      obtain ⟨o1, ho1⟩ : ∃ o1, o1 = (((P.set a (i + 1)).getD b 0 : Nat) : Int) := ⟨_, rfl⟩
      rw [← ho1] at x2
      clear ho1 hp hbel hp1 hcut
      go_wp2_with fail
      go_region
      go_end0
      exact ⟨rfl, HP1.out.drewN 1, HBL.out.drewN 1⟩
end Go.Proofs.Ytbpjflghkkkenaa.heap

/- The walks of small functions on scores. -/
namespace Go.Proofs.Ytbpjflghkkkenaa.score
open Go.RowKit
open Go.Proofs.Ytbpjflghkkkenaa.fns

theorem retI {k : IntKind} {a b : Int} (h : a = b) : Ending.returned (.int k a) = .returned (.int k b) := by rw [h]
theorem retB {a b : Bool} (h : a = b) : Ending.returned (.bool a) = .returned (.bool b) := by rw [h]
theorem retF {a b : Nat} (h : a = b) : Ending.returned (.float .f64 a) = .returned (.float .f64 b) := by rw [h]

theorem noNumber_any (b : Nat) (w : World) : Calls Try.prog 89 #[.float .f64 b] w fun e w' => e = .returned (.bool (isNan b)) ∧ w = w' := by
  go_enter Try.func89, Try.ntmps89
  go_wp2
  go_ret
  exact ⟨retB (f_self b), rfl⟩
theorem noNumber_of {b : Nat} {x : Bool} (h : isNan b = x) (w : World) : Calls Try.prog 89 #[.float .f64 b] w fun e w' => e = .returned (.bool x) ∧ w = w' := by
  have := noNumber_any b w; rw [h] at this; exact this
theorem Less_any (a b : Nat) (w : World) (ha : W64 a) (hb : W64 b) : Calls Try.prog 88 #[.float .f64 a, .float .f64 b] w fun e w' => e = .returned (.bool (decide (key a < key b))) ∧ w = w' := by
  have hl := less_key (a := a) hb
  cases h : isNan a
  · rw [h, if_neg (by decide)] at hl
    have HL : Hid ((FloatKind.f64.format.order a b == some .lt) = decide (key a < key b)) := Lib.hid (by rw [f_lss ha hb, h]; exact hl)
    have HN := Lib.hid h
    clear h hl
    go_enter Try.func88, Try.ntmps88
    go_wp2_with fail
    go_at_call 89; refine (noNumber_of HN.out _).mono ?_; rintro e w' ⟨rfl, rfl⟩
    go_wp2_with fail
    go_ret
    exact ⟨retB HL.out, rfl⟩
  · rw [h, if_pos rfl] at hl
    have HL := Lib.hid hl
    have HN := Lib.hid h
    clear h hl
    go_enter Try.func88, Try.ntmps88
    go_wp2_with fail
    go_at_call 89; refine (noNumber_of HN.out _).mono ?_; rintro e w' ⟨rfl, rfl⟩
    go_wp2_with fail
    go_at_call 89; refine (noNumber_any _ _).mono ?_; rintro e w' ⟨rfl, rfl⟩
    go_wp2_with fail
    go_ret
    exact ⟨retB HL.out, rfl⟩
theorem Less_of {a b : Nat} {x : Bool} (h : decide (key a < key b) = x) (ha : W64 a) (hb : W64 b) (w : World) : Calls Try.prog 88 #[.float .f64 a, .float .f64 b] w fun e w' => e = .returned (.bool x) ∧ w = w' := by
  have := Less_any a b w ha hb; rw [h] at this; exact this
end Go.Proofs.Ytbpjflghkkkenaa.score
