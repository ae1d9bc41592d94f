import Derived.Test.YtbpjflghkkkenaaMg11
import Derived.Test.YtbpjflghkkkenaaMg1
/- The walk of the document's waits. -/
namespace Go.Proofs.Ytbpjflghkkkenaa.row
open Go.RowKit
open Go.Proofs.Ytbpjflghkkkenaa.mem (own_on addr_add)

def encB (b : Bool) : List Value := [.bool b]
theorem encB_len (b : Bool) : (encB b).length = 1 := rfl
theorem flatB (bs : List Bool) : flat encB bs = bs.map Value.bool := by
  induction bs with
  | nil => rfl
  | cons z zs ih => show encB z ++ flat encB zs = _; rw [ih]; rfl
theorem Rw.atB {P : Nat → Prop} {w : World} {a : Option Addr} {m cap : Nat} {bs : List Bool} (h : Rw encB 1 P w (.slice a m cap) bs) {i : Nat} (hi : i < bs.length) : ∃ b off, a = some ⟨b, off, none⟩ ∧ b < w.heap.size ∧
    w.cell? ⟨b, off + i, none⟩ = some (.bool (bs.getD i false)) := by
  obtain ⟨b, off, ha, hb, hc⟩ := h.at_ (List.getElem?_eq_getElem hi)
  have e : bs.getD i false = bs[i] := by simp [List.getD, hi]
  rw [e]
  have := hc 0 _ rfl
  rw [Nat.mul_one, Nat.add_zero] at this
  exact ⟨b, off, ha, hb, this⟩
/-- a gate's numbers are small ones -/
def Lit3 (t : Tri) : Prop := (0 ≤ t.1 ∧ t.1 ≤ 33554433) ∧ (0 ≤ t.2.1 ∧ t.2.1 ≤ 33554433) ∧ (0 ≤ t.2.2 ∧ t.2.2 ≤ 33554433)
theorem lit3_at {ts : List Tri} (h : ∀ t ∈ ts, Lit3 t) (k : Nat) : Lit3 (ts.getD k (0, 0, 0)) := by
  by_cases hk : k < ts.length
  · have e : ts.getD k (0, 0, 0) = ts[k] := by simp [List.getD, hk]
    rw [e]; exact h _ (List.getElem_mem hk)
  · simp only [List.getD]
    rw [List.getElem?_eq_none (by omega)]
    unfold Lit3; simp
/-- whether a literal is of one of the first k gates that is not told yet -/
def waitsTo (gs : List Tri) (told : List Bool) (l : Int) (k : Nat) : Bool := (List.range k).any fun i => !told.getD i false && decide ((gs.getD i (0, 0, 0)).1 / 2 = l / 2)
def waitsB (gs : List Tri) (told : List Bool) (l : Int) : Bool := waitsTo gs told l gs.length
theorem waits_step (gs : List Tri) (told : List Bool) (l : Int) (k : Nat) : waitsTo gs told l (k + 1) = (waitsTo gs told l k || (!told.getD k false && decide ((gs.getD k (0, 0, 0)).1 / 2 = l / 2))) := by
  unfold waitsTo
  rw [List.range_succ, List.any_append]; simp
theorem waits_mono {gs : List Tri} {told : List Bool} {l : Int} {k : Nat} (h : waitsTo gs told l k = true) {n : Nat} (hk : k ≤ n) : waitsTo gs told l n = true := by
  unfold waitsTo at h ⊢
  rw [List.any_eq_true] at h ⊢
  obtain ⟨i, hi, h⟩ := h
  exact ⟨i, List.mem_range.2 (by have := List.mem_range.1 hi; omega), h⟩
/-- how a truth is told, with memory made -/
def SaysW (b : Bool) (w : World) (e : Ending) (w' : World) : Prop := e = .returned (.bool b) ∧ Below w.heap.size w w'
set_option maxHeartbeats 1600000 in
theorem refWaits_any (D : CD) (F : CF) (P Q : Nat → Prop) (tv : Value) (bs : List Bool) (l : Int) (w : World) (hc : InC P w D F) (ht : Rw encB 1 Q w tv bs) (hlen : bs.length = D.gates.length) (hn : D.gates.length ≤ 1000)
    (hg : ∀ t ∈ D.gates, Lit3 t) (hl : 0 ≤ l ∧ l ≤ 33554433) :
    Calls Try.prog 31 #[cval D F, tv, .int .i64 l] w (SaysW (waitsB D.gates bs l) w) := by
  obtain ⟨ta, tc, rfl, t1, t2, -⟩ := ht.form
  unfold maxLen at t2
  obtain ⟨n, hnn⟩ : ∃ n, n = D.gates.length := ⟨_, rfl⟩
  rw [← hnn] at hn hlen
  rw [hlen] at t1 ht ⊢
  have HN := Lib.hid hnn
  have HLN := Lib.hid hlen
  have HT := Lib.hid ht
  have HC := Lib.hid hc
  have HG := Lib.hid (lit3_at hg)
  obtain ⟨l1, l2⟩ := hl
  clear hc ht hnn hlen hg
  go_enter Try.func31, Try.ntmps31
  go_upto_region 1 with fail
  have X0 := blk_new w (ccells D F) 27
  have B0 : Below w.heap.size w (w.alloc (.cells (ccells D F) 27)) := (Below.refl _ _).alloc (Nat.le_refl _) _
  generalize w.alloc (.cells (ccells D F) 27) = v at *
  have HB := Lib.hid B0
  have x0 : v.cell? ⟨w.heap.size, 6, none⟩ = some (.slice F.ag D.gates.length F.cg) := (X0.cell 6).1
  rw [← HN.out] at x0
  have HX0 := Lib.hid x0
  clear X0 B0 x0
  go_wp2_with fail
  go_loop [7] (fun i => ∃ k : Nat, k ≤ n ∧ i = .int .i64 k ∧ Hid (waitsTo D.gates bs l k = false)) (fun i => n - (intOf i).toNat)
  case atStart => exact ⟨0, Nat.zero_le _, by go_num, Lib.hid rfl⟩
  case round =>
    obtain ⟨k, hk, rfl, HNO⟩ := hrel
    have x0 := HX0.out
    by_cases hlt : k < n
    · obtain ⟨tb, toff, rfl, htb, c0⟩ := Rw.atB (HT.out.on HB.out) (i := k) (by rw [HLN.out]; exact hlt)
      obtain ⟨b, off, hba, hlb, e0, e1, e2⟩ := Rw.at3 (HC.out.on HB.out).g (i := k) (by rw [← HN.out]; exact hlt)
      rw [hba] at x0
      have HST := Lib.hid (waits_step D.gates bs l k)
      have HW : Hid (waitsTo D.gates bs l (k + 1) = true → waitsB D.gates bs l = true) := Lib.hid (fun h => waits_mono h (by have := HN.out; omega))
      have hg := (HG.out k).1
      obtain ⟨g, hgz⟩ : ∃ g, g = (D.gates.getD k (0, 0, 0)).1 := ⟨_, rfl⟩
      obtain ⟨t, htz⟩ : ∃ t, t = bs.getD k false := ⟨_, rfl⟩
      rw [← hgz] at e0 HST hg
      rw [← htz] at c0 HST
      obtain ⟨g1, g2⟩ := hg
      clear hba hgz htz e1 e2
      have d1 : decide ((k : Int) < (n : Int)) = true := by simp; omega
      have d2 : 0 ≤ (k : Int) := by omega
      cases t with
      | true =>
        have HN2 : Hid (waitsTo D.gates bs l (k + 1) = false) := Lib.hid (by rw [HST.out, HNO.out]; rfl)
        go_wp2_with fail
        go_round
        case rel => exact ⟨k + 1, by omega, by go_num, HN2⟩
        case measure => simp [intOf]; omega
      | false =>
        cases q : (g / 2 == l / 2) with
        | true =>
          have HE : Hid (SaysW (waitsB D.gates bs l) w (.returned (.bool true)) v) := Lib.hid (by
            rw [HW.out (by rw [HST.out, HNO.out]; simpa using q)]
            exact ⟨rfl, HB.out⟩)
          go_wp2_with fail
          go_ret
          exact HE.out
        | false =>
          have HN2 : Hid (waitsTo D.gates bs l (k + 1) = false) := Lib.hid (by rw [HST.out, HNO.out]; simpa using q)
          go_wp2_with fail
          go_round
          case rel => exact ⟨k + 1, by omega, by go_num, HN2⟩
          case measure => simp [intOf]; omega
    · obtain rfl : n = k := by omega
      have d1 : decide ((n : Int) < (n : Int)) = false := by simp
      have HE : Hid (SaysW (waitsB D.gates bs l) w (.returned (.bool false)) v) := Lib.hid (by
        have h := HNO.out
        rw [HN.out] at h
        rw [show waitsB D.gates bs l = false from h]
        exact ⟨rfl, HB.out⟩)
      clear hlt hk
      go_wp2_with fail
      go_ret
      exact HE.out
end Go.Proofs.Ytbpjflghkkkenaa.row

/- The document's order, purely; the state of its walk. -/
namespace Go.Proofs.Ytbpjflghkkkenaa.row
open Go.RowKit
open Go.Proofs.Ytbpjflghkkkenaa.mem (own_on addr_add)
open Go.Proofs.Ytbpjflghkkkenaa.ints (Ints)
open Go.Proofs.Ytbpjflghkkkenaa.aig (row_end news1 one_cell)

/-- whether a gate can be told -/
def freeB (gs : List Tri) (told : List Bool) (i : Nat) : Bool := !told.getD i false && (!waitsB gs told (gs.getD i (0, 0, 0)).2.1 && !waitsB gs told (gs.getD i (0, 0, 0)).2.2)
/-- the first of the first k gates that can -/
def nextTo (gs : List Tri) (told : List Bool) : Nat → Option Nat
  | 0 => none
  | k + 1 => match nextTo gs told k with
    | some i => some i
    | none => if freeB gs told k = true then some k else none
theorem next_mono {gs : List Tri} {told : List Bool} {k i : Nat} (h : nextTo gs told k = some i) : ∀ n, k ≤ n → nextTo gs told n = some i := by
  intro n hn
  induction n with
  | zero => obtain rfl : k = 0 := by omega
            exact h
  | succ n ih =>
    by_cases e : k = n + 1
    · subst e; exact h
    · unfold nextTo; rw [ih (by omega)]
theorem next_spec {gs : List Tri} {told : List Bool} : ∀ {k i : Nat}, nextTo gs told k = some i → i < k ∧ freeB gs told i = true := by
  intro k
  induction k with
  | zero => intro i h; cases h
  | succ k ih =>
    intro i h
    unfold nextTo at h
    cases hk : nextTo gs told k with
    | some j =>
      rw [hk] at h
      obtain rfl := Option.some.inj h
      exact ⟨by have := (ih hk).1; omega, (ih hk).2⟩
    | none =>
      rw [hk] at h
      by_cases hf : freeB gs told k = true
      · simp only [hf, if_true] at h
        obtain rfl := Option.some.inj h
        exact ⟨by omega, hf⟩
      · simp [hf] at h
theorem next_yes {gs : List Tri} {told : List Bool} {k : Nat} (h : nextTo gs told k = none) (hf : freeB gs told k = true) : nextTo gs told (k + 1) = some k := by
  unfold nextTo; rw [h]; simp [hf]
theorem next_no {gs : List Tri} {told : List Bool} {k : Nat} (h : nextTo gs told k = none) (hf : freeB gs told k = false) : nextTo gs told (k + 1) = none := by
  unfold nextTo; rw [h]; simp [hf]
/-- the gates' places, from here on -/
def ordF (gs : List Tri) : Nat → List Bool → List Int
  | 0, _ => []
  | m + 1, told => match nextTo gs told gs.length with
    | none => []
    | some i => (i : Int) :: ordF gs m (told.set i true)
def orderL (gs : List Tri) : List Int := ordF gs gs.length (List.replicate gs.length false)
theorem ord_none {gs : List Tri} {told : List Bool} (h : nextTo gs told gs.length = none) (m : Nat) : ordF gs m told = [] := by
  cases m with
  | zero => rfl
  | succ m => unfold ordF; rw [h]
theorem ord_some {gs : List Tri} {told : List Bool} {i : Nat} (h : nextTo gs told gs.length = some i) (m : Nat) : ordF gs (m + 1) told = (i : Int) :: ordF gs m (told.set i true) := by
  conv => lhs; unfold ordF
  rw [h]
def cntF (bs : List Bool) : Nat := bs.countP fun b => !b
theorem cnt_set : ∀ (bs : List Bool) (i : Nat), i < bs.length → bs.getD i false = false → cntF (bs.set i true) + 1 = cntF bs := by
  intro bs
  induction bs with
  | nil => intro i h; simp at h
  | cons b bs ih =>
    intro i hi hb
    cases i with
    | zero =>
      simp at hb
      subst hb
      simp [cntF]
    | succ i =>
      have := ih i (by simpa using hi) (by simpa using hb)
      unfold cntF at this ⊢
      simp only [List.set_cons_succ, List.countP_cons]
      omega
theorem cnt_new (n : Nat) : cntF (List.replicate n false) = n := by
  induction n with
  | zero => rfl
  | succ n ih =>
    rw [List.replicate_succ]
    show List.countP _ (false :: _) = _
    rw [List.countP_cons]
    exact congrArg (· + 1) ih
theorem free_told {gs : List Tri} {told : List Bool} {i : Nat} (h : freeB gs told i = true) : told.getD i false = false := by
  unfold freeB at h
  simp only [Bool.and_eq_true, Bool.not_eq_true'] at h
  exact h.1
theorem ord_len (gs : List Tri) : ∀ (m : Nat) (told : List Bool), (ordF gs m told).length ≤ m := by
  intro m
  induction m with
  | zero => intro told; exact Nat.le_refl _
  | succ m ih =>
    intro told
    unfold ordF
    cases nextTo gs told gs.length with
    | none => exact Nat.zero_le _
    | some i => exact Nat.succ_le_succ (ih _)
/-! ## The state -/
def tcells (bs : List Bool) : Array Value := (bs.map Value.bool).toArray
theorem tcells_set (bs : List Bool) (i : Nat) : (tcells bs).setIfInBounds i (.bool true) = tcells (bs.set i true) := by
  unfold tcells
  rw [List.map_set, List.setIfInBounds_toArray]
theorem tcells_at {bs : List Bool} {i : Nat} (h : i < bs.length) : (tcells bs)[i]? = some (.bool (bs.getD i false)) := by
  unfold tcells
  simp [List.getD, h]
/-- what the walk holds: the places so far, what is told -/
structure OT (v : World) (gt : Nat) (lv : Value) (L : List Int) (bs : List Bool) (w : World) : Prop where
  row : w.ownsRow v.heap.size 3 1 lv L.length (L.map (Value.int .i64))
  told : Blk w gt (tcells bs)
  bel : Below v.heap.size v w
  ge : v.heap.size ≤ gt
  ne : lv.ownBlock ≠ some gt
section
variable {v w w' : World} {gt : Nat} {lv : Value} {L : List Int} {bs : List Bool}
theorem OT.on (h : OT v gt lv L bs w) (hb : Below w.heap.size w w') : OT v gt lv L bs w' :=
  ⟨own_on h.row hb, h.told.on hb, h.bel.trans (hb.mono h.bel.size), h.ge, h.ne⟩
theorem OT.cell (h : OT v gt lv L bs w) {i : Nat} (hi : i < bs.length) : w.cell? ⟨gt, i, none⟩ = some (.bool (bs.getD i false)) ∧ w.frozen? ⟨gt, i, none⟩ = false :=
  ⟨((h.told.cell i).1).trans (tcells_at hi), (h.told.cell i).2⟩
theorem OT.rw (h : OT v gt lv L bs w) (hm : bs.length ≤ maxLen) : Rw encB 1 (fun _ => False) w (.slice (some ⟨gt, 0, none⟩) bs.length bs.length) bs := by
  refine ⟨some ⟨gt, 0, none⟩, bs.length, rfl, Nat.le_refl _, hm, (fun e => by cases e), fun _ => ⟨gt, 0, rfl, h.told.lt, fun e => e, fun i x hi j u hu => ?_⟩⟩
  match j, hu with
  | 0, hu =>
    simp [encB] at hu
    subst hu
    have hl := (List.getElem?_eq_some_iff.1 hi).1
    have := (h.cell hl).1
    rw [Nat.zero_add, Nat.mul_one, Nat.add_zero, this]
    have : bs.getD i false = x := by simp [List.getD, hi]
    rw [this]
theorem OT.add {w3 : World} {o : Obj} {t c : Nat} {z : Int} (h : OT v gt lv L bs w) (hown : w3.ownsRow v.heap.size 3 1 (.slice (some ⟨t, 0, none⟩) (L.length + 1) c) (L.length + 1) (L.map (Value.int .i64) ++ [.int .i64 z]))
    (hg : (w.alloc o).grownBy w3 lv.ownBlock) (hat : lv.ownBlock = some t ∨ t = w.heap.size ∨ w.heap.size < t) : OT v gt (.slice (some ⟨t, 0, none⟩) (L.length + 1) c) (L ++ [z]) bs w3 := by
  have he := row_end h.bel h.bel.size h.row hown hg
  have ha : Below w.heap.size w (w.alloc o) := (Below.refl _ _).alloc (Nat.le_refl _) _
  have hl := h.told.lt
  have h1 := h.told.on ha
  obtain ⟨tt, h2⟩ := h1
  refine ⟨he.1, ⟨tt, (hg.block gt (by have := ha.size; omega) (fun e => h.ne e.symm)).trans h2⟩, he.2, h.ge, ?_⟩
  intro e
  have e1 : t = gt := by simpa [Value.ownBlock] using e
  rcases hat with e2 | e2 | e2
  · exact h.ne (e1 ▸ e2)
  · omega
  · omega
theorem own_away {B sz n T : Nat} {e : TypeId} {u : Value} {xs : List Value} (h : w.ownsRow B e sz u n xs) (hT : u.ownBlock ≠ some T) (hf : ∀ k, k < w.heap.size → k ≠ T → w'.heap[k]? = w.heap[k]?) : w'.ownsRow B e sz u n xs := by
  rcases h.2 with h0 | ⟨g, cap, cur, hv, hb, hg, r⟩
  · exact ⟨h.1, .inl h0⟩
  · refine ⟨h.1, .inr ⟨g, cap, cur, hv, hb, (hf g (Array.getElem?_eq_some_iff.1 hg).1 (fun e => hT ?_)).trans hg, r⟩⟩
    rw [hv, ← e]; rfl
theorem OT.tell (h : OT v gt lv L bs w) (i : Nat) : OT v gt lv L (bs.set i true) (w.setCell ⟨gt, i, none⟩ (.bool true)) :=
  ⟨own_away h.row h.ne (fun k _ hk => Below.heap_setCell w ⟨gt, i, none⟩ _ k hk), by have := h.told.put i (.bool true); rw [tcells_set] at this; exact this, h.bel.setCell (p := ⟨gt, i, none⟩) h.ge _, h.ge, h.ne⟩
end
theorem infoB1 : (Try.prog.info? 4).map (fun i => (i.zero, i.size, i.bytes)) = some (some (.bool false), 1, 1) := by kernel_rfl
theorem mk_bools (n : Nat) (w : World) (hn : n ≤ 1000) : (Instr.makeSlice 56 (.int .i64 (n : Int)) (.int .i64 (n : Int))).run Try.prog w =
    .ok (.slice (some ⟨w.heap.size, 0, none⟩) n n) (w.alloc (.cells (madeCells #[.bool false] n) 4)) := by
  obtain ⟨i0, hi, hz0, hz1, hz2⟩ := info_parts infoB1
  have h := run_make (P := Try.prog) w 56 4 i0 _ Try.underlying56 hi hz0 .i64 .i64 n n (by omega) (Int.le_refl _) (by rw [hz2]; omega) (by omega)
  rw [hz1, Nat.mul_one, Int.toNat_natCast] at h
  exact h
theorem made_t (n : Nat) : madeCells #[Value.bool false] n = tcells (List.replicate n false) := by
  apply Array.toList_inj.1
  simp [madeCells, tcells, Nat.mod_one, List.map_const']
/-- how it begins -/
def Begun (v : World) (n : Nat) (s3 s4 : Value) (w : World) : Prop := ∃ gt, s4 = .slice (some ⟨gt, 0, none⟩) n n ∧ OT v gt s3 [] (List.replicate n false) w
theorem begun_a (v : World) (n : Nat) : Begun v n (.slice (some ⟨v.heap.size, 0, none⟩) 0 0) (.slice (some ⟨v.heap.size + 1, 0, none⟩) n n) ((v.alloc (.cells #[] 3)).alloc (.cells (madeCells #[.bool false] n) 4)) := by
  have s1 : (v.alloc (.cells #[] 3)).heap.size = v.heap.size + 1 := by simp
  have q : ∀ (w : World) (b : Obj), Below w.heap.size w (w.alloc b) := fun w b => (Below.refl _ _).alloc (Nat.le_refl _) _
  have hb := blk_new (v.alloc (.cells #[] 3)) (madeCells #[.bool false] n) 4
  rw [s1, made_t] at hb
  refine ⟨v.heap.size + 1, rfl, own_on (World.ownsRow_made _ #[] 0 (Nat.le_refl _) (by unfold maxLen; omega) rfl) (q _ _), by rw [made_t]; exact hb, (q _ _).trans ((q _ _).mono (by omega)), by omega, ?_⟩
  simp [Value.ownBlock]
theorem begun_b (v : World) (n : Nat) : Begun v n (.slice (some ⟨v.heap.size + 1, 0, none⟩) 0 0) (.slice (some ⟨v.heap.size, 0, none⟩) n n) ((v.alloc (.cells (madeCells #[.bool false] n) 4)).alloc (.cells #[] 3)) := by
  have s1 : (v.alloc (.cells (madeCells #[.bool false] n) 4)).heap.size = v.heap.size + 1 := by simp
  have q : ∀ (w : World) (b : Obj), Below w.heap.size w (w.alloc b) := fun w b => (Below.refl _ _).alloc (Nat.le_refl _) _
  have hb := blk_new v (madeCells #[.bool false] n) 4
  have hr : ((v.alloc (.cells (madeCells #[.bool false] n) 4)).alloc (.cells #[] 3)).ownsRow (v.heap.size + 1) 3 1 (.slice (some ⟨v.heap.size + 1, 0, none⟩) 0 0) 0 [] := by
    have := World.ownsRow_made (v.alloc (.cells (madeCells #[.bool false] n) 4)) (e := 3) (size := 1) (base := (v.alloc (.cells (madeCells #[.bool false] n) 4)).heap.size) #[] 0 (Nat.le_refl _) (by unfold maxLen; omega) rfl
    rw [s1] at this
    exact this
  refine ⟨v.heap.size, rfl, Joins.ownsRow_le hr (by omega), ?_, (q _ _).trans ((q _ _).mono (by omega)), Nat.le_refl _, ?_⟩
  · rw [made_t] at hb ⊢
    exact hb.on (q _ _)
  · simp [Value.ownBlock]
end Go.Proofs.Ytbpjflghkkkenaa.row

/- The gates' order by waiting, purely: each gate waits for one, or can be told; the first one that can is told. -/
namespace Go.Proofs.Ytbpjflghkkkenaa.row
open Go.Proofs.Ytbpjflghkkkenaa.hpf (Same)

theorem getD_setG {α : Type} (l : List α) (i j : Nat) (x d : α) : (l.set i x).getD j d = if i = j ∧ i < l.length then x else l.getD j d := by
  simp only [List.getD, List.getElem?_set]
  by_cases e : i = j
  · subst e
    by_cases h : i < l.length
    · simp [h]
    · simp [h]
  · simp [e]
def vL (gs : List Tri) (i : Nat) : Int := (gs.getD i (0, 0, 0)).1 / 2
def vA (gs : List Tri) (i : Nat) : Int := (gs.getD i (0, 0, 0)).2.1 / 2
def vB (gs : List Tri) (i : Nat) : Int := (gs.getD i (0, 0, 0)).2.2 / 2
theorem waits_iff (gs : List Tri) (told : List Bool) (l : Int) : waitsB gs told l = true ↔ ∃ i, i < gs.length ∧ told.getD i false = false ∧ vL gs i = l / 2 := by
  unfold waitsB waitsTo vL
  rw [List.any_eq_true]
  constructor
  · rintro ⟨i, hi, h⟩
    simp only [Bool.and_eq_true, Bool.not_eq_true', decide_eq_true_eq] at h
    exact ⟨i, List.mem_range.1 hi, h.1, h.2⟩
  · rintro ⟨i, hi, h1, h2⟩
    refine ⟨i, List.mem_range.2 hi, ?_⟩
    simp only [Bool.and_eq_true, Bool.not_eq_true', decide_eq_true_eq]
    exact ⟨h1, h2⟩
/-- whether a variable is of a gate that is not told yet -/
def Wt (gs : List Tri) (told : List Bool) (v : Int) : Prop := ∃ i, i < gs.length ∧ told.getD i false = false ∧ vL gs i = v
theorem free_iff (gs : List Tri) (told : List Bool) (i : Nat) : freeB gs told i = true ↔ told.getD i false = false ∧ ¬ Wt gs told (vA gs i) ∧ ¬ Wt gs told (vB gs i) := by
  unfold freeB
  simp only [Bool.and_eq_true, Bool.not_eq_true']
  have e1 := waits_iff gs told (gs.getD i (0, 0, 0)).2.1
  have e2 := waits_iff gs told (gs.getD i (0, 0, 0)).2.2
  unfold Wt vA vB
  constructor
  · rintro ⟨h1, h2, h3⟩
    refine ⟨h1, fun h => ?_, fun h => ?_⟩
    · rw [e1.2 h] at h2; cases h2
    · rw [e2.2 h] at h3; cases h3
  · rintro ⟨h1, h2, h3⟩
    refine ⟨h1, ?_, ?_⟩
    · cases h : waitsB gs told (gs.getD i (0, 0, 0)).2.1 with
      | true => exact absurd (e1.1 h) h2
      | false => rfl
    · cases h : waitsB gs told (gs.getD i (0, 0, 0)).2.2 with
      | true => exact absurd (e2.1 h) h3
      | false => rfl
theorem next_not {gs : List Tri} {told : List Bool} : ∀ k, (∀ i, i < k → freeB gs told i = false) → nextTo gs told k = none := by
  intro k
  induction k with
  | zero => intro _; rfl
  | succ k ih => intro h; exact next_no (ih (fun i hi => h i (by omega))) (h k (by omega))
theorem next_is {gs : List Tri} {told : List Bool} {n i : Nat} (hi : i < n) (hf : freeB gs told i = true) (h : ∀ j, j < i → freeB gs told j = false) : nextTo gs told n = some i :=
  next_mono (next_yes (next_not i h) hf) n (by omega)
/-- a chain of those that wait for one gate -/
def Ch (next : List Int) : Int → List Nat → Prop
  | h, [] => h = -1
  | h, q :: l => h = (q : Int) ∧ Ch next (next.getD q (-1)) l
theorem Ch.set {next : List Int} {i : Nat} {x : Int} : ∀ {l : List Nat} {h : Int}, Ch next h l → i ∉ l → Ch (next.set i x) h l := by
  intro l
  induction l with
  | nil => intro h c _; exact c
  | cons q l ih =>
    intro h c hn
    obtain ⟨c1, c2⟩ := c
    have h1 : i ≠ q := fun e => hn (by rw [e]; exact List.mem_cons_self)
    refine ⟨c1, ?_⟩
    rw [getD_setG, if_neg (fun e => h1 e.1)]
    exact ih c2 (fun e => hn (List.mem_cons_of_mem _ e))
/-- what is so of the sorter: the first k gates are settled but for those of pend -/
structure Inv (gs : List Tri) (V k : Nat) (pend : List Nat) (told : List Bool) (L : List Int) (op heads next : List Int) (P : List Nat) (C : Nat → List Nat) : Prop where
  tl : told.length = gs.length
  hl : heads.length = gs.length
  nl : next.length = gs.length
  ol : op.length = V
  kn : k ≤ gs.length
  ord : orderL gs = L ++ ordF gs (cntF told) told
  lt : ∀ i, told.getD i false = true → i < k
  opn : ∀ v, v < V → (op.getD v (-1) = -1 ∧ ¬ Wt gs told (v : Int)) ∨ ∃ p, p < gs.length ∧ op.getD v (-1) = (p : Int) ∧ told.getD p false = false ∧ vL gs p = (v : Int)
  ch : ∀ j, j < gs.length → told.getD j false = false → Ch next (heads.getD j (-1)) (C j)
  one : ∀ i j j', i ∈ C j → i ∈ C j' → j = j'
  nd : ∀ j, (C j).Nodup
  wt : ∀ i j, i ∈ C j → i < k ∧ told.getD i false = false ∧ P.getD i 0 = 0 ∧ i ∉ pend ∧ j < gs.length ∧ told.getD j false = false ∧ (vL gs j = vA gs i ∨ vL gs j = vB gs i)
  hp : ∀ i, P.getD i 0 ≠ 0 → i < k ∧ freeB gs told i = true ∧ i ∉ pend
  pn : pend.Nodup
  pd : ∀ i ∈ pend, i < k ∧ told.getD i false = false
  all : ∀ i, i < k → told.getD i false = false → i ∈ pend ∨ P.getD i 0 ≠ 0 ∨ ∃ j, i ∈ C j
/-- the gates' variables, each its own -/
structure GG (gs : List Tri) (V : Nat) : Prop where
  l : ∀ i, i < gs.length → 0 ≤ vL gs i ∧ vL gs i < (V : Int)
  a : ∀ i, i < gs.length → 0 ≤ vA gs i ∧ vA gs i < (V : Int)
  b : ∀ i, i < gs.length → 0 ≤ vB gs i ∧ vB gs i < (V : Int)
  ne : ∀ i j, i < gs.length → j < gs.length → vL gs i = vL gs j → i = j
section
variable {gs : List Tri} {V k : Nat} {pend : List Nat} {told : List Bool} {L op heads next : List Int} {P : List Nat} {C : Nat → List Nat}
theorem rep_getD {α : Type} (n i : Nat) (x : α) : (List.replicate n x).getD i x = x := by
  simp only [List.getD, List.getElem?_replicate]
  by_cases h : i < n <;> simp [h]
theorem Inv.start (ho : op.length = V) (h : ∀ v, v < V → (op.getD v (-1) = -1 ∧ ∀ i, i < gs.length → vL gs i ≠ (v : Int)) ∨ ∃ p, p < gs.length ∧ op.getD v (-1) = (p : Int) ∧ vL gs p = (v : Int)) :
    Inv gs V 0 [] (List.replicate gs.length false) [] op (List.replicate gs.length (-1)) (List.replicate gs.length 0) (List.replicate gs.length 0) (fun _ => []) := by
  refine ⟨by simp, by simp, by simp, ho, Nat.zero_le _, ?_, fun i h => ?_, fun v hv => ?_, fun j _ _ => rep_getD _ _ _, fun i j j' h => by simp at h, fun _ => List.nodup_nil, fun i j h => by simp at h, fun i h => ?_, List.nodup_nil, fun i h => by simp at h, fun i h => by omega⟩
  · rw [cnt_new]; rfl
  · rw [rep_getD] at h; cases h
  · rcases h v hv with ⟨h1, h2⟩ | ⟨p, h1, h2, h3⟩
    · exact .inl ⟨h1, fun ⟨i, hi, _, e⟩ => h2 i hi e⟩
    · exact .inr ⟨p, h1, h2, rep_getD _ _ _, h3⟩
  · rw [rep_getD] at h; exact absurd rfl h
theorem Inv.begin_ (h : Inv gs V k [] told L op heads next P C) (hk : k < gs.length) : Inv gs V (k + 1) [k] told L op heads next P C := by
  have hkt : told.getD k false = false := by
    cases e : told.getD k false with
    | false => rfl
    | true => have := h.lt k e; omega
  refine ⟨h.tl, h.hl, h.nl, h.ol, hk, h.ord, fun i hi => by have := h.lt i hi; omega, h.opn, h.ch, h.one, h.nd, fun i j hi => ?_, fun i hi => ?_, by simp, fun i hi => ?_, fun i hi ht => ?_⟩
  · obtain ⟨a, b, c, d, e⟩ := h.wt i j hi
    exact ⟨by omega, b, c, by simp; omega, e⟩
  · obtain ⟨a, b, c⟩ := h.hp i hi
    exact ⟨by omega, b, by simp; omega⟩
  · obtain rfl : i = k := by simpa using hi
    exact ⟨by omega, hkt⟩
  · by_cases e : i = k
    · exact .inl (by simp [e])
    · rcases h.all i (by omega) ht with a | a
      · simp at a
      · exact .inr a
/-- a gate that is in hand waits for one -/
theorem Inv.wait {i on : Nat} {rest : List Nat} (h : Inv gs V k (i :: rest) told L op heads next P C) (hon : on < gs.length) (ht : told.getD on false = false) (hv : vL gs on = vA gs i ∨ vL gs on = vB gs i) :
    Inv gs V k rest told L op (heads.set on (i : Int)) (next.set i (heads.getD on (-1))) P (fun j => if j = on then i :: C on else C j) := by
  obtain ⟨hik, hit⟩ := h.pd i (List.mem_cons_self)
  have hkn := h.kn
  have hni : ∀ j, i ∉ C j := fun j e => (h.wt i j e).2.2.2.1 List.mem_cons_self
  have hnr : i ∉ rest := (List.nodup_cons.1 h.pn).1
  have mem : ∀ x j, x ∈ (if j = on then i :: C on else C j) → (x = i ∧ j = on) ∨ x ∈ C j := by
    intro x j hx
    by_cases e : j = on
    · rw [if_pos e] at hx
      rcases List.mem_cons.1 hx with e2 | e2
      · exact .inl ⟨e2, e⟩
      · exact .inr (by rw [e]; exact e2)
    · rw [if_neg e] at hx; exact .inr hx
  refine ⟨h.tl, by rw [List.length_set]; exact h.hl, by rw [List.length_set]; exact h.nl, h.ol, h.kn, h.ord, h.lt, h.opn, fun j hj htj => ?_, fun x j j' h1 h2 => ?_, fun j => ?_, fun x j hx => ?_, fun x hx => ?_, (List.nodup_cons.1 h.pn).2, fun x hx => h.pd x (List.mem_cons_of_mem _ hx), fun x hx htx => ?_⟩
  · by_cases e : j = on
    · subst e
      rw [if_pos rfl, getD_setG, if_pos ⟨rfl, by rw [h.hl]; exact hon⟩]
      refine ⟨rfl, ?_⟩
      rw [getD_setG, if_pos ⟨rfl, by rw [h.nl]; omega⟩]
      exact (h.ch j hj htj).set (hni j)
    · rw [if_neg e, getD_setG, if_neg (fun e2 => e e2.1.symm)]
      exact (h.ch j hj htj).set (hni j)
  · rcases mem x j h1 with ⟨e1, e2⟩ | e1
    · rcases mem x j' h2 with ⟨_, e4⟩ | e3
      · rw [e2, e4]
      · rw [e1] at e3; exact absurd e3 (hni j')
    · rcases mem x j' h2 with ⟨e3, _⟩ | e3
      · rw [e3] at e1; exact absurd e1 (hni j)
      · exact h.one x j j' e1 e3
  · show (if j = on then i :: C on else C j).Nodup
    by_cases e : j = on
    · rw [if_pos e]; exact List.nodup_cons.2 ⟨hni on, h.nd on⟩
    · rw [if_neg e]; exact h.nd j
  · rcases mem x j hx with ⟨rfl, rfl⟩ | e1
    · refine ⟨hik, hit, ?_, hnr, hon, ht, hv⟩
      by_cases e : P.getD x 0 = 0
      · exact e
      · exact absurd List.mem_cons_self (h.hp x e).2.2
    · obtain ⟨a, b, c, d, e⟩ := h.wt x j e1
      exact ⟨a, b, c, fun e2 => d (List.mem_cons_of_mem _ e2), e⟩
  · obtain ⟨a, b, c⟩ := h.hp x hx
    exact ⟨a, b, fun e => c (List.mem_cons_of_mem _ e)⟩
  · rcases h.all x hx htx with a | a | ⟨j, a⟩
    · rcases List.mem_cons.1 a with rfl | a
      · exact .inr (.inr ⟨on, by rw [if_pos rfl]; exact List.mem_cons_self⟩)
      · exact .inl a
    · exact .inr (.inl a)
    · refine .inr (.inr ⟨j, ?_⟩)
      by_cases e : j = on
      · rw [if_pos e]; exact List.mem_cons_of_mem _ (by rw [← e]; exact a)
      · rw [if_neg e]; exact a
/-- a gate that is in hand can be told -/
theorem Inv.ready {i t : Nat} {rest P' : List Nat} (h : Inv gs V k (i :: rest) told L op heads next P C) (ha : ¬ Wt gs told (vA gs i)) (hb : ¬ Wt gs told (vB gs i)) (hi : i < P.length) (hP : Same (P.set i (t + 1)) P') :
    Inv gs V k rest told L op heads next P' C := by
  obtain ⟨hik, hit⟩ := h.pd i (List.mem_cons_self)
  have hnr : i ∉ rest := (List.nodup_cons.1 h.pn).1
  have hx : ∀ x, P'.getD x 0 = 0 ↔ x ≠ i ∧ P.getD x 0 = 0 := by
    intro x
    rw [hP x, getD_setG]
    by_cases e : i = x
    · subst e; rw [if_pos ⟨rfl, hi⟩]; simp
    · rw [if_neg (fun e2 => e e2.1)]
      exact ⟨fun a => ⟨fun e2 => e e2.symm, a⟩, fun a => a.2⟩
  refine ⟨h.tl, h.hl, h.nl, h.ol, h.kn, h.ord, h.lt, h.opn, h.ch, h.one, h.nd, fun x j hxj => ?_, fun x hx0 => ?_, (List.nodup_cons.1 h.pn).2, fun x hx => h.pd x (List.mem_cons_of_mem _ hx), fun x hxk htx => ?_⟩
  · obtain ⟨a, b, c, d, e⟩ := h.wt x j hxj
    exact ⟨a, b, (hx x).2 ⟨fun e2 => d (by rw [e2]; exact List.mem_cons_self), c⟩, fun e2 => d (List.mem_cons_of_mem _ e2), e⟩
  · by_cases e : x = i
    · subst e; exact ⟨hik, (free_iff _ _ _).2 ⟨hit, ha, hb⟩, hnr⟩
    · obtain ⟨a, b, c⟩ := h.hp x (fun e2 => hx0 ((hx x).2 ⟨e, e2⟩))
      exact ⟨a, b, fun e2 => c (List.mem_cons_of_mem _ e2)⟩
  · rcases h.all x hxk htx with a | a | a
    · rcases List.mem_cons.1 a with rfl | a
      · exact .inr (.inl (fun e => ((hx x).1 e).1 rfl))
      · exact .inl a
    · exact .inr (.inl (fun e => a ((hx x).1 e).2))
    · exact .inr (.inr a)
/-- the first of those that can be told is told: those that waited for it are in hand -/
theorem Inv.tell {x : Nat} {P' : List Nat} (hg : GG gs V) (h : Inv gs V k [] told L op heads next P C) (hx : P.getD x 0 ≠ 0) (hmin : ∀ y, P.getD y 0 ≠ 0 → x ≤ y) (hxP : x < P.length) (hP : Same (P.set x 0) P') :
    Inv gs V k (C x) (told.set x true) (L ++ [(x : Int)]) (op.set (vL gs x).toNat (-1)) heads next P' (fun j => if j = x then [] else C j) ∧ Ch next (heads.getD x (-1)) (C x) := by
  obtain ⟨hxk, hf, -⟩ := h.hp x hx
  have hkn := h.kn
  have hxt := free_told hf
  have hxn : x < gs.length := by omega
  obtain ⟨hv0, hv1⟩ := hg.l x hxn
  have ht : ∀ y, (told.set x true).getD y false = false ↔ y ≠ x ∧ told.getD y false = false := by
    intro y
    rw [getD_setG]
    by_cases e : x = y
    · subst e; rw [if_pos ⟨rfl, by rw [h.tl]; exact hxn⟩]; simp
    · rw [if_neg (fun e2 => e e2.1)]
      exact ⟨fun a => ⟨fun e2 => e e2.symm, a⟩, fun a => a.2⟩
  have hp : ∀ y, P'.getD y 0 = 0 ↔ y = x ∨ P.getD y 0 = 0 := by
    intro y
    rw [hP y, getD_setG]
    by_cases e : x = y
    · subst e; rw [if_pos ⟨rfl, hxP⟩]; simp
    · rw [if_neg (fun e2 => e e2.1)]
      exact ⟨fun a => .inr a, fun a => a.resolve_left (fun e2 => e e2.symm)⟩
  have hw : ∀ v, Wt gs (told.set x true) v → Wt gs told v := fun v ⟨i, a, b, c⟩ => ⟨i, a, ((ht i).1 b).2, c⟩
  have hnx : nextTo gs told gs.length = some x := next_is hxn hf (fun j hj => by
    cases e : freeB gs told j with
    | false => rfl
    | true =>
      have hjt := free_told e
      rcases h.all j (by omega) hjt with a | a | ⟨c, a⟩
      · simp at a
      · have := hmin j a; omega
      · obtain ⟨-, -, -, -, a1, a2, a3⟩ := h.wt j c a
        obtain ⟨-, f1, f2⟩ := (free_iff _ _ _).1 e
        rcases a3 with a3 | a3
        · exact absurd ⟨c, a1, a2, a3⟩ f1
        · exact absurd ⟨c, a1, a2, a3⟩ f2)
  have hcx : ∀ j, x ∉ C j := fun j e => hx (h.wt x j e).2.2.1
  have mem : ∀ y j, y ∈ (if j = x then [] else C j) → j ≠ x ∧ y ∈ C j := by
    intro y j hy
    by_cases e : j = x
    · rw [if_pos e] at hy; simp at hy
    · rw [if_neg e] at hy; exact ⟨e, hy⟩
  refine ⟨⟨by rw [List.length_set]; exact h.tl, h.hl, h.nl, by rw [List.length_set]; exact h.ol, h.kn, ?_, fun i hi => ?_, fun v hv => ?_, fun j hj htj => ?_, fun y j j' h1 h2 => h.one y j j' (mem y j h1).2 (mem y j' h2).2, fun j => ?_, fun y j hy => ?_, fun y hy => ?_, h.nd x, fun y hy => ?_, fun y hy hty => ?_⟩, h.ch x hxn hxt⟩
  · rw [h.ord, ← cnt_set told x (by rw [h.tl]; exact hxn) hxt, ord_some hnx]; simp
  · by_cases e : i = x
    · omega
    · refine h.lt i ?_
      rw [getD_setG, if_neg (fun e2 => e e2.1.symm)] at hi
      exact hi
  · by_cases e : (vL gs x).toNat = v
    · refine .inl ⟨by rw [getD_setG, if_pos ⟨e, by rw [h.ol, e]; exact hv⟩], fun ⟨i, a, b, c⟩ => ?_⟩
      have : i = x := hg.ne i x a hxn (by rw [c]; omega)
      exact ((ht i).1 b).1 this
    · rw [getD_setG, if_neg (fun e2 => e e2.1)]
      rcases h.opn v hv with ⟨a, b⟩ | ⟨p, a, b, c, d⟩
      · exact .inl ⟨a, fun e2 => b (hw _ e2)⟩
      · exact .inr ⟨p, a, b, (ht p).2 ⟨fun e2 => e (by rw [← e2, d]; simp), c⟩, d⟩
  · obtain ⟨e1, e2⟩ := (ht j).1 htj
    rw [if_neg e1]
    exact h.ch j hj e2
  · show (if j = x then [] else C j).Nodup
    by_cases e : j = x
    · rw [if_pos e]; exact List.nodup_nil
    · rw [if_neg e]; exact h.nd j
  · obtain ⟨e1, e2⟩ := mem y j hy
    obtain ⟨a, b, c, -, d, e, f⟩ := h.wt y j e2
    exact ⟨a, (ht y).2 ⟨fun e3 => hcx j (by rw [← e3]; exact e2), b⟩, (hp y).2 (.inr c), fun e3 => e1 (h.one y j x e2 e3), d, (ht j).2 ⟨e1, e⟩, f⟩
  · have hy2 : y ≠ x ∧ P.getD y 0 ≠ 0 := ⟨fun e => hy ((hp y).2 (.inl e)), fun e => hy ((hp y).2 (.inr e))⟩
    obtain ⟨a, b, -⟩ := h.hp y hy2.2
    obtain ⟨f0, f1, f2⟩ := (free_iff _ _ _).1 b
    exact ⟨a, (free_iff _ _ _).2 ⟨(ht y).2 ⟨hy2.1, f0⟩, fun e => f1 (hw _ e), fun e => f2 (hw _ e)⟩, fun e => hy2.2 (h.wt y x e).2.2.1⟩
  · obtain ⟨a, b, -⟩ := h.wt y x hy
    exact ⟨a, (ht y).2 ⟨fun e => hcx x (by rw [e] at hy; exact hy), b⟩⟩
  · obtain ⟨e1, e2⟩ := (ht y).1 hty
    rcases h.all y hy e2 with a | a | ⟨j, a⟩
    · simp at a
    · exact .inr (.inl (fun e => ((hp y).1 e).elim e1 a))
    · by_cases e : j = x
      · exact .inl (by rw [← e]; exact a)
      · exact .inr (.inr ⟨j, by rw [if_neg e]; exact a⟩)
/-- when all are settled and none can be told, all is told -/
theorem Inv.done (h : Inv gs V gs.length [] told L op heads next P C) (h0 : ∀ i, P.getD i 0 = 0) : orderL gs = L := by
  rw [h.ord, ord_none (next_not _ (fun j hj => ?_)), List.append_nil]
  cases e : freeB gs told j with
  | false => rfl
  | true =>
    have hjt := free_told e
    rcases h.all j hj hjt with a | a | ⟨c, a⟩
    · simp at a
    · exact absurd (h0 j) a
    · obtain ⟨-, -, -, -, a1, a2, a3⟩ := h.wt j c a
      obtain ⟨-, f1, f2⟩ := (free_iff _ _ _).1 e
      rcases a3 with a3 | a3
      · exact absurd ⟨c, a1, a2, a3⟩ f1
      · exact absurd ⟨c, a1, a2, a3⟩ f2
theorem Inv.len (h : Inv gs V k pend told L op heads next P C) : L.length ≤ gs.length := by
  have e := congrArg List.length h.ord
  rw [List.length_append] at e
  have := ord_len gs gs.length (List.replicate gs.length false)
  unfold orderL at e
  omega
end
end Go.Proofs.Ytbpjflghkkkenaa.row
