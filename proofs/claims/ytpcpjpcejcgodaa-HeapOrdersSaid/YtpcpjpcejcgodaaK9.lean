/- The walks of heap's List: a copy of the tree, sorted by a closure. -/
import Derived.Test.YtpcpjpcejcgodaaK8
import Derived.Test.YtpcpjpcejcgodaaShelf
import Derived.WalkSpells
namespace Go.Proofs.Ytpcpjpcejcgodaa.heap
open Go.Shelf Go.RowKit Go.Sort
open Go.Proofs.Ytpcpjpcejcgodaa.fns Go.Proofs.Ytpcpjpcejcgodaa.hpf Go.Proofs.Ytpcpjpcejcgodaa.ints

/-- what the closure of List says of two things -/
def cmpv (S : List Nat) (a b : Nat) : Int := if ah S a b then -1 else if ah S b a then 1 else 0
theorem cmp_any (A B g s p n c d a b : Nat) (tv : Value) (S P T : List Nat) (w : World) (h : Hp A B w g s p tv n S P T) (hS : AllW S) (hc : One w c (.slice (some ⟨s, 0, none⟩) n n))
    (hd : One w d (.func (.func 30) #[] #[.pointer (some ⟨c, 0, none⟩)])) (ha : a < n) (hb : b < n) (hn : n ≤ 1048576) :
    Calls Try.prog 28 #[.int .i64 a, .int .i64 b, .pointer (some ⟨d, 0, none⟩)] w fun e w' => e = .returned (.int .i64 (cmpv S a b)) ∧ ∃ q, w' = w.drewN q := by
  obtain ⟨x1, -⟩ := hd.cells
  have HH := Lib.hid h
  have HS := Lib.hid hS
  have HC := Lib.hid hc
  have x1d : ∀ q, (w.drewN q).cell? ⟨d, 0, none⟩ = some (.func (.func 30) #[] #[.pointer (some ⟨c, 0, none⟩)]) := fun q => x1
  clear h hS hc hd
  cases h1 : ah S a b
  · have H1 := Lib.hid h1
    cases h2 : ah S b a
    · have H2 := Lib.hid h2
      have HR : Hid (cmpv S a b = 0) := Lib.hid (by unfold cmpv; rw [h1, h2]; rfl)
      clear h1 h2
      go_enter Try.func28, Try.ntmps28
      go_wp2_with fail
      go_at_call 30; refine (ahead_of A B g s p n c a b _ S P T _ H1.out HH.out HS.out HC.out ha hb hn).mono ?_; rintro e w2 ⟨rfl, q1, rfl⟩
      have x2 := x1d q1
      go_wp2_with fail
      go_at_call 30; refine (ahead_of A B g s p n c b a _ S P T _ H2.out (HH.out.drewN _) HS.out (HC.out.drewN _) hb ha hn).mono ?_; rintro e w2 ⟨rfl, q2, rfl⟩
      go_wp2_with fail
      go_ret
      exact ⟨score.retI HR.out.symm, _, rfl⟩
    · have H2 := Lib.hid h2
      have HR : Hid (cmpv S a b = 1) := Lib.hid (by unfold cmpv; rw [h1, h2]; rfl)
      clear h1 h2
      go_enter Try.func28, Try.ntmps28
      go_wp2_with fail
      go_at_call 30; refine (ahead_of A B g s p n c a b _ S P T _ H1.out HH.out HS.out HC.out ha hb hn).mono ?_; rintro e w2 ⟨rfl, q1, rfl⟩
      have x2 := x1d q1
      go_wp2_with fail
      go_at_call 30; refine (ahead_of A B g s p n c b a _ S P T _ H2.out (HH.out.drewN _) HS.out (HC.out.drewN _) hb ha hn).mono ?_; rintro e w2 ⟨rfl, q2, rfl⟩
      go_wp2_with fail
      go_ret
      exact ⟨score.retI HR.out.symm, _, rfl⟩
  · have H1 := Lib.hid h1
    have HR : Hid (cmpv S a b = -1) := Lib.hid (by unfold cmpv; rw [h1]; rfl)
    clear h1
    go_enter Try.func28, Try.ntmps28
    go_wp2_with fail
    go_at_call 30; refine (ahead_of A B g s p n c a b _ S P T _ H1.out HH.out HS.out HC.out ha hb hn).mono ?_; rintro e w2 ⟨rfl, q1, rfl⟩
    go_wp2_with fail
    go_ret
    exact ⟨score.retI HR.out.symm, _, rfl⟩

theorem Hp.newsT {A B : Nat} {w w' : World} {g s p t m c n : Nat} {S P T : List Nat} (h : Hp A B w g s p (.slice (some ⟨t, 0, none⟩) m c) n S P T) (hb : Below w.heap.size w w') :
    ∀ (j : Nat) (u : Value), (ncells T)[j]? = some u → w'.cell? ((⟨t, 0, none⟩ : Addr).add j) = some u := by
  intro j u hj
  have hl := (List.getElem?_eq_some_iff.1 hj).1
  rw [ncells_len] at hl
  rw [addr_add, Nat.zero_add, hb.cell (p := ⟨t, j, none⟩) h.len.2.2.2.2, (h.cT hl).1, ← hj, ncells_at hl]
theorem cells_one (T : List Nat) : ∀ u ∈ ncells T, u.oneCell' = true := by
  intro u hu; unfold ncells at hu; obtain ⟨x, -, rfl⟩ := List.mem_map.1 hu; rfl
def Cloned (T : List Nat) (w : World) (e : Ending) (w' : World) : Prop :=
  ∃ l c, e = .returned (.slice (some ⟨l, 0, none⟩) T.length c) ∧ w'.ownsRow w.heap.size 3 1 (.slice (some ⟨l, 0, none⟩) T.length c) T.length (ncells T) ∧ Below w.heap.size w w'
theorem clone_any (A B g s p t m c n : Nat) (S P T : List Nat) (w : World) (h : Hp A B w g s p (.slice (some ⟨t, 0, none⟩) m c) n S P T) (h0 : 0 < m) (hm : m ≤ 1048576) :
    Calls Try.prog 26 #[.slice (some ⟨t, 0, none⟩) m c] w (Cloned T w) := by
  obtain ⟨i0, hi, hz0, hz1, hz2⟩ := info_parts infoInt
  have HL := Lib.hid h.len.1
  have hmade : (w.alloc (.cells #[] 3)).ownsRow w.heap.size 3 1 (.slice (some ⟨w.heap.size, 0, none⟩) 0 0) 0 [] := World.ownsRow_made _ #[] 0 (Nat.le_refl _) (by unfold maxLen; omega) rfl
  have hb0 : Below w.heap.size w (w.alloc (.cells #[] 3)) := (Below.refl _ w).alloc (Nat.le_refl _) _
  have HN := Lib.hid (h.newsT hb0)
  have HM := Lib.hid hmade
  have HB := Lib.hid hb0
  have hk : ∀ W : World, (binOp .eql 39 (.slice (some ⟨t, 0, none⟩) m c) (.slice none 0 0)).run Try.prog W = .ok (.bool false) W := fun W => Lib.run_eql_slice_nil W 39 3 _ m c 0 0 Try.underlying39
  clear h hmade hb0
  go_enter Try.func26, Try.ntmps26
  go_wp2_with (at_builtin; refine wpList_append_lies _ rfl _ _ 39 rfl w.heap.size 3 i0 (.int .i64 0) 1 8 Try.underlying39 hi hz0 hz1 hz2 rfl (by decide) (.slice (some ⟨w.heap.size, 0, none⟩) 0 0) 0 [] rfl HM.out ⟨t, 0, none⟩ m c (ncells T) rfl (by rw [ncells_len, HL.out]; omega) HN.out (cells_one T) h0 (by unfold maxLen; omega) (by omega) (by simp) _ rfl ?_)
  intro l c1 w1 hown hgrow _ _
  have HE : Hid (Cloned T w (.returned (.slice (some ⟨l, 0, none⟩) m c1)) w1) := Lib.hid (by
    exact ⟨l, c1, by rw [HL.out], by rw [HL.out]; exact hown, HB.out.grown hgrow (by simp) (fun k hk => (HM.out.lt k hk).1)⟩)
  clear hown hgrow
  go_wp2_with fail
  go_ret
  exact HE.out
theorem below_grow {B : Nat} {w0 w : World} (h : Below B w0 w) (hB : B ≤ w.heap.size) (os : Array Obj) : Below B w0 (grow w os) :=
  ⟨h.os, h.tape, h.output, by have := h.size; simp [grow]; omega, fun k hk => by
    rw [← h.block k hk]
    show (w.heap ++ os)[k]? = w.heap[k]?
    exact Array.getElem?_append_left (by omega)⟩
theorem hlen (n : Nat) (W : World) (h : n ≤ 12) : Calls Try.prog 32 #[.int .u64 n] W fun e w' => (∃ l : Int, e = .returned (.int .i64 l)) ∧ w' = W :=
  (Any.bits_Len Try.bitsLen n W (by omega) (by omega)).mono fun _ _ ⟨he, hw⟩ => ⟨⟨_, he⟩, hw⟩
theorem inner_size {α : Type} [Inhabited α] (lt : α → α → Bool) (a : Nat) : ∀ (j : Nat) (d : Array α), (Sort.insInner lt a j d).size = d.size := by
  intro j
  induction j with
  | zero => intro d; rfl
  | succ j ih =>
    intro d
    unfold Sort.insInner
    split
    · rw [ih]; simp [Sort.swp]
    · rfl
theorem outer_size {α : Type} [Inhabited α] (lt : α → α → Bool) (a b : Nat) : ∀ (k i : Nat) (d : Array α), b - i ≤ k → (Sort.insOuter lt a b i d).size = d.size := by
  intro k
  induction k with
  | zero =>
    intro i d h
    unfold Sort.insOuter
    rw [if_neg (by omega)]
  | succ k ih =>
    intro i d h
    unfold Sort.insOuter
    split
    · rw [ih _ _ (by omega), inner_size]
    · rfl
theorem sort_size {α : Type} [Inhabited α] (lt : α → α → Bool) (d : Array α) (a b : Nat) : (Sort.insertionSort lt d a b).size = d.size := outer_size lt a b (b - (a + 1)) (a + 1) d (Nat.le_refl _)
/-- numbers below 3, as they lie in memory -/
def enc3 (x : Fin 3) : Value := .int .i64 ((x.val : Nat) : Int)
def cmp3 (S : List Nat) (x y : Fin 3) : Int := cmpv S x.val y.val
theorem sort3 (A B g s p c d K l : Nat) (cap : Nat) (tv : Value) (S P T : List Nat) (w w2 : World) (D : Array (Fin 3)) (h : Hp A B w g s p tv 3 S P T) (hS : AllW S) (hc : One w c (.slice (some ⟨s, 0, none⟩) 3 3))
    (hd : One w d (.func (.func 30) #[] #[.pointer (some ⟨c, 0, none⟩)])) (hb : Below w.heap.size w w2) (hl : w.heap.size ≤ l) (hD : D.size = 3)
    (hrow : w2.ownsRow K 3 1 (.slice (some ⟨l, 0, none⟩) 3 cap) 3 (D.toList.map enc3)) :
    Calls Try.prog 27 #[.slice (some ⟨l, 0, none⟩) 3 cap, .func (.func 28) #[] #[.pointer (some ⟨d, 0, none⟩)]] w2 fun e w' =>
      e = .returned (.tuple #[]) ∧ w'.ownsRow K 3 1 (.slice (some ⟨l, 0, none⟩) 3 cap) 3 ((Sort.insertionSort (ltOf (cmp3 S)) D 0 3).toList.map enc3) ∧ Below w.heap.size w w' := by
  have eg : ∀ args w, (callFunc 28 args).run Try.prog w = .ok (.enter 28 args) w := enters_of Try.func28 (by kernel_rfl) rfl
  have hwor : ∀ m os (dk : Array (Fin 3)), Below w.heap.size w (sortWorld enc3 w2 l 0 m dk os) := fun m os dk => by
    unfold sortWorld
    refine below_grow (Lib.below_putRow hb hl) ?_ _
    rw [Go.Sort.size_putRow]
    exact hb.size
  have hcmp : CmpReads Try.prog 28 #[.pointer (some ⟨d, 0, none⟩)] enc3 (cmp3 S) l 0 D.size w2 := fun m os dk _ x y =>
    cmp_any A B g s p 3 c d x.val y.val tv S P T _ (h.on (hwor m os dk)) hS (hc.on (hwor m os dk) hc.lt) (hd.on (hwor m os dk) hd.lt) x.isLt y.isLt (by omega)
  obtain ⟨l', cap', e1, -, -, -, -, -, hH⟩ := Lib.holds_of_ownsRow hrow (by simp)
  cases e1
  have hcon := Any.slices_SortFunc_small Try.sortF enc3 (fun _ => rfl) (cmp3 S) 28 #[.pointer (some ⟨d, 0, none⟩)] l 0 cap D w2 eg hcmp (by simpa using hH) (by omega) hlen
  rw [hD] at hcon
  have hs : (Sort.insertionSort (ltOf (cmp3 S)) D 0 3).size = 3 := by rw [sort_size, hD]
  generalize Sort.insertionSort (ltOf (cmp3 S)) D 0 3 = R at hcon hs ⊢
  change Calls Try.prog 27 _ _ _ at hcon
  have h1 := Lib.ownsRow_putRow (q := 0) (k := 3) (ys := R.toList) hrow (by simpa using hs) (Nat.le_refl _)
  rw [List.take_of_length_le (by simp [hs]), Array.toArray_toList, Go.Sort.ahead_zero] at h1
  have h2 := Lib.below_putRow (enc := enc3) (q := 0) (d := R) hb hl
  rw [Go.Sort.ahead_zero] at h2
  refine hcon.mono ?_
  rintro e w' ⟨rfl, q, rfl⟩
  exact ⟨rfl, h1, below_drewN h2 q⟩
end Go.Proofs.Ytpcpjpcejcgodaa.heap
