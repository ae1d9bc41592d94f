import Derived.Test.YtbpjflghkkkenaaMg10
import Derived.Test.YtbpjflghkkkenaaMg7
import Derived.Deep.QuietTactic
import Derived.BigQuiet
import Derived.BigRegion
/- The walks of the document's Inputs and Levels. -/
namespace Go.Proofs.Ytbpjflghkkkenaa.aig
open Go.RowKit
open Go.Proofs.Ytbpjflghkkkenaa.mem Go.Proofs.Ytbpjflghkkkenaa.agf

/-- a list of the call's own, behind an append -/
theorem row_end {base t c : Nat} {lv : Value} {L : List Int} {r : Int} {w w1 w2 : World} {o : Obj} (hb : Below base w w1) (hs : base ≤ w1.heap.size) (hrow : w1.ownsRow base 3 1 lv L.length (L.map (Value.int .i64)))
    (hown : w2.ownsRow base 3 1 (.slice (some ⟨t, 0, none⟩) (L.length + 1) c) (L.length + 1) (L.map (Value.int .i64) ++ [.int .i64 r])) (hg : (w1.alloc o).grownBy w2 lv.ownBlock) :
    w2.ownsRow base 3 1 (.slice (some ⟨t, 0, none⟩) (L.length + 1) c) (L ++ [r]).length ((L ++ [r]).map (Value.int .i64)) ∧ Below base w w2 := by
  refine ⟨?_, (hb.alloc hs o).grown hg (by simp; omega) (fun k hk => (hrow.lt k hk).1)⟩
  rw [map_snocI] at hown
  rw [List.length_append, List.length_singleton]; exact hown
/-- how a list is told -/
def Told (L : List Int) (w : World) (e : Ending) (w' : World) : Prop :=
  ∃ v, e = .returned v ∧ w'.ownsRow w.heap.size 3 1 v L.length (L.map (Value.int .i64)) ∧ Below w.heap.size w w'
/-- the variables of the inputs among the first k nodes -/
def inpTo (ns : List (Int × Int)) (k : Nat) : List Int := ((List.range k).filter fun i => decide ((ns.getD i (0, 0)).1 < 0)).map fun i : Nat => (i : Int) + 1
theorem inpTo_step (ns : List (Int × Int)) (k : Nat) : inpTo ns (k + 1) = inpTo ns k ++ (if (ns.getD k (0, 0)).1 < 0 then [(k : Int) + 1] else []) := by
  unfold inpTo
  rw [List.range_succ, List.filter_append, List.map_append]
  by_cases h : (ns.getD k (0, 0)).1 < 0
  · rw [if_pos h]; simp only [List.filter_cons, decide_eq_true h, if_true, List.filter_nil, List.map_cons, List.map_nil]
  · rw [if_neg h]; simp only [List.filter_cons, decide_eq_false h, Bool.false_eq_true, if_false, List.filter_nil, List.map_nil]
theorem inpTo_len (ns : List (Int × Int)) (k : Nat) : (inpTo ns k).length ≤ k := by
  unfold inpTo; rw [List.length_map]
  exact Nat.le_trans (List.length_filter_le _ _) (by simp)
theorem KNds.on {w w' : World} {v : Value} {ns : List (Int × Int)} {P : Nat → Prop} (h : KNds P w v ns) (hb : Below w.heap.size w w') : KNds P w' v ns := h.move (moved_of_below hb)
/-- the levels, one node more -/
def lvStep (L : List Int) (p : Int × Int) : List Int := L ++ [if p.1 < 0 then 0 else max (L.getD (p.1.toNat / 2) 0) (L.getD (p.2.toNat / 2) 0) + 1]
def levels (ns : List (Int × Int)) : List Int := ns.foldl lvStep [0]
theorem levels_step {ns : List (Int × Int)} {k : Nat} (h : k < ns.length) : levels (ns.take (k + 1)) = lvStep (levels (ns.take k)) (ns.getD k (0, 0)) := by
  rw [List.take_succ_eq_append_getElem h]
  unfold levels
  rw [List.foldl_append]
  simp [List.getD, h]
/-- how high the levels are -/
def Lvls (L : List Int) (k : Nat) : Prop := ∀ j, 0 ≤ L.getD j 0 ∧ L.getD j 0 ≤ (k : Int)
theorem lvls_more {L : List Int} {k : Nat} {r : Int} (h : Lvls L k) (hr : 0 ≤ r ∧ r ≤ (k : Int) + 1) : Lvls (L ++ [r]) (k + 1) := by
  intro j
  rcases Nat.lt_trichotomy j L.length with e | e | e
  · rw [snocI_l e]; have := h j; omega
  · rw [e, snocI_r]; omega
  · have : (L ++ [r]).getD j 0 = 0 := by simp only [List.getD]; rw [List.getElem?_eq_none (by simp; omega)]; rfl
    rw [this]; omega
theorem row_cell {w : World} {base t c : Nat} {L : List Int} (h : w.ownsRow base 3 1 (.slice (some ⟨t, 0, none⟩) L.length c) L.length (L.map (Value.int .i64))) {j : Nat} (hj : j < L.length) : w.cell? ⟨t, j, none⟩ = some (.int .i64 (L.getD j 0)) := by
  rw [h.cellAt j (by omega), List.getElem?_map, List.getElem?_eq_getElem hj]; simp [List.getD, hj]
end Go.Proofs.Ytbpjflghkkkenaa.aig

/- The walks of the document's Owned and Used. (Printed by mkN6.py.) -/
namespace Go.Proofs.Ytbpjflghkkkenaa.row
open Go.RowKit
open Go.Proofs.Ytbpjflghkkkenaa.mem (own_on addr_add)
open Go.Proofs.Ytbpjflghkkkenaa.ints (Ints)
open Go.Proofs.Ytbpjflghkkkenaa.aig (row_end news1 one_cell)
abbrev Tells := Go.Proofs.Ytbpjflghkkkenaa.aig.Told

theorem flat1 (zs : List Int) : flat enc1 zs = zs.map (Value.int .i64) := by
  induction zs with
  | nil => rfl
  | cons z zs ih => show enc1 z ++ flat enc1 zs = _; rw [ih]; rfl
theorem infoI1 : (Try.prog.info? 3).map (fun i => (i.zero, i.size, i.bytes)) = some (some (.int .i64 0), 1, 8) := by kernel_rfl
/-- 'append(T{}, l...)' in a list of operations -/
theorem wpList_cloneR {p : Program} {ops : Array Oper} {rest : List Oper} {o : Oper} {a : Act} {Q : Exit → Act → World → Prop} {α : Type} {enc : α → List Value} {sz : Nat} {P : Nat → Prop} {w : World} {v : Value} {xs : List α}
    (hgd : Region.wanted o (yielded ops a.tmps) = true) (s x : Operand) (t e : TypeId) (i : TypeInfo) (z : Value) (bytes : Nat)
    (ho : o.op = .call { callee := .builtin .append, args := #[s, x], argTypes := #[t, t] }) (ht : p.underlying t = some (.slice e)) (hi : p.info? e = some i) (hz : i.zero = some z) (hsize : i.size = sz) (hby : i.bytes = bytes) (hzs : z.cells.size = sz) (h0 : 0 < sz)
    (he : ∀ x, (enc x).length = sz) (B g : Nat) (hB : B ≤ g) (hg : w.heap[g]? = some (.cells #[] e (0, 0)))
    (hs : a.eval s = .slice (some ⟨g, 0, none⟩) 0 0) (hx : a.eval x = v) (hv : Rw enc sz P w v xs) (hfit : xs.length * bytes ≤ 140737488355328)
    (h : ∀ v' w', w'.ownsRow B e sz v' xs.length (flat enc xs) → Below w.heap.size w w' → wpList p ops Q rest (a.put o.dst v') w') : wpList p ops Q (o :: rest) a w := by
  refine wpList_step fun K hK => ?_
  rw [if_pos hgd]
  exact wp_clone s x t e i z bytes ho ht hi hz hsize hby hzs h0 he B g hB hg hs hx hv hfit fun v' w' h1 h2 => hK _ _ (h v' w' h1 h2)
/-- the literals that are something's; some of them -/
def ownedTo (D : CD) (j k : Nat) : List Int := D.ins ++ (D.lats.take j).map (fun t => t.1) ++ (D.gates.take k).map (fun t => t.1)
def ownedL (D : CD) : List Int := D.ins ++ D.lats.map (fun t => t.1) ++ D.gates.map (fun t => t.1)
theorem owned_all (D : CD) : ownedTo D D.lats.length D.gates.length = ownedL D := by unfold ownedTo ownedL; rw [List.take_length, List.take_length]
theorem take_snoc {β : Type} {ts : List Tri} {k : Nat} (f : Tri → β) (h : k < ts.length) : (ts.take (k + 1)).map f = (ts.take k).map f ++ [f (ts.getD k (0, 0, 0))] := by
  rw [List.take_succ_eq_append_getElem h, List.map_append]
  simp [List.getD, h]
theorem owned_lat (D : CD) {j : Nat} (h : j < D.lats.length) : ownedTo D (j + 1) 0 = ownedTo D j 0 ++ [(D.lats.getD j (0, 0, 0)).1] := by
  unfold ownedTo
  rw [take_snoc _ h]; simp
theorem owned_gate (D : CD) (j : Nat) {k : Nat} (h : k < D.gates.length) : ownedTo D j (k + 1) = ownedTo D j k ++ [(D.gates.getD k (0, 0, 0)).1] := by
  unfold ownedTo
  rw [take_snoc _ h]; simp
theorem owned_len (D : CD) (h : Lens D) (j k : Nat) : (ownedTo D j k).length ≤ 3000 := by
  have := h.i; have := h.l; have := h.g
  unfold ownedTo
  simp only [List.length_append, List.length_map, List.length_take]; omega
theorem blkE (v : World) : (v.alloc (.cells #[] 3)).heap[v.heap.size]? = some (.cells #[] 3 (0, 0)) := by show (v.heap.push _)[v.heap.size]? = _; rw [Array.getElem?_push, if_pos rfl]
set_option maxRecDepth 100000 in
set_option maxHeartbeats 3200000 in
theorem refOwned_any (D : CD) (F : CF) (P : Nat → Prop) (w : World) (hc : InC P w D F) (hl : Lens D) :
    Calls Try.prog 22 #[cval D F] w (Tells (ownedL D) w) := by
  obtain ⟨i0, hi, hz0, hz1, hz2⟩ := info_parts infoI1
  have HL := Lib.hid hl
  have HC := Lib.hid hc
  have HALL := Lib.hid (owned_all D)
  clear hc hl
  go_enter Try.func22, Try.ntmps22
  go_upto_region 1 with fail
  have X0 := blk_new w (ccells D F) 27
  have B0 : Below w.heap.size w (w.alloc (.cells (ccells D F) 27)) := (Below.refl _ _).alloc (Nat.le_refl _) _
  have I0 := HC.out.on B0
  clear HC
  generalize w.alloc (.cells (ccells D F) 27) = v at *
  have HX := Lib.hid X0
  have HB := Lib.hid B0
  have HI := Lib.hid I0
  have hX := X0.lt
  have bE : Below v.heap.size v (v.alloc (.cells #[] 3)) := (Below.refl _ _).alloc (Nat.le_refl _) _
  have x1 : (v.alloc (.cells #[] 3)).cell? ⟨w.heap.size, 1, none⟩ = some (.slice F.ai D.ins.length F.ci) := ((X0.on bE).cell 1).1
  have HBE := Lib.hid bE
  clear X0 B0 I0 bE
  go_wp2_with (at_builtin; refine wpList_cloneR (by simp [Region.wanted]) (.tmp 6) (.tmp 8) 22 3 i0 (.int .i64 0) 8 rfl Try.underlying22 hi hz0 hz1 hz2 rfl (by decide) enc1_len v.heap.size v.heap.size (Nat.le_refl _) (blkE v) rfl rfl (HI.out.on HBE.out).i (by have := HL.out.i; omega) ?_)
  intro lv0 w2 hown hb2
  have HLI : Hid (D.ins = ownedTo D 0 0) := Lib.hid (by unfold ownedTo; simp)
  have HE : Hid (w2.ownsRow v.heap.size 3 1 lv0 D.ins.length (D.ins.map (Value.int .i64)) ∧ Below v.heap.size v w2) := Lib.hid ⟨by rw [← flat1]; exact hown, HBE.out.trans (hb2.mono (by simp))⟩
  clear hown hb2 x1
  go_wp2_with fail
  obtain ⟨n, hn⟩ : ∃ n, n = D.lats.length := ⟨_, rfl⟩
  have HN := Lib.hid hn
  have hn1 : n ≤ 1000 := by rw [hn]; exact HL.out.l
  clear hn
  go_loopw [3, 4] (fun l i wr => ∃ (k : Nat) (L : List Int) (lv : Value), k ≤ n ∧ i = .int .i64 k ∧ l = lv ∧ Hid (L = ownedTo D k 0) ∧ Hid (wr.ownsRow v.heap.size 3 1 lv L.length (L.map (Value.int .i64)) ∧ Below v.heap.size v wr)) (fun _ i _ => n - (intOf i).toNat)
  case atStart => exact ⟨0, _, _, Nat.zero_le _, by go_num, rfl, HLI, HE⟩
  case round =>
    clear HE HLI
    obtain ⟨k, L, lv, hk, rfl, hlv, HLI, HW⟩ := hrel
    obtain rfl : lv = _ := hlv.symm
    obtain ⟨wo, rfl⟩ : ∃ wo : World, wo = wr := ⟨_, rfl⟩
    have hX := HX.out.lt
    have hsz := HW.out.2.size
    have x0 : wo.cell? ⟨w.heap.size, 2, none⟩ = some (.slice F.al D.lats.length F.cl) := ((HX.out.on HW.out.2).cell 2).1
    rw [← HN.out] at x0
    have hlen : L.length ≤ 3000 := by rw [HLI.out]; exact owned_len D HL.out _ _
    by_cases hlt : k < n
    · have hlt' : k < D.lats.length := by rw [← HN.out]; exact hlt
      obtain ⟨b, off, hba, hlb, e0, e1, e2⟩ := Rw.at3 (HI.out.on HW.out.2).l hlt'
      rw [hba] at x0
      have HST := Lib.hid (owned_lat D hlt')
      obtain ⟨z0, hz⟩ : ∃ z0, z0 = (D.lats.getD k (0, 0, 0)).1 := ⟨_, rfl⟩
      rw [← hz] at e0 HST
      have HLN : Hid (L ++ [z0] = ownedTo D (k + 1) 0) := Lib.hid (by rw [HLI.out]; exact HST.out.symm)
      clear hba hz e1 e2 hlt' HST
      have d1 : decide ((k : Int) < (n : Int)) = true := by simp; omega
      have d2 : 0 ≤ (k : Int) := by omega
      have HRO := Lib.hid HW.out.1
      have HROW := Lib.hid (own_on HRO.out ((Below.refl _ wo).alloc (Nat.le_refl _) (.cells #[.int .i64 z0] 3)))
      go_wp2_with (go_loud (at_builtin; refine wpList_append_lies _ rfl (.tmp 17) (.tmp 24) 22 rfl v.heap.size 3 i0 (.int .i64 0) 1 8 Try.underlying22 hi hz0 hz1 hz2 rfl (by decide) lv L.length (L.map (Value.int .i64)) rfl HROW.out ⟨wo.heap.size, 0, none⟩ 1 1 [.int .i64 z0] rfl rfl (news1 _ _ _) (one_cell _) (by omega) (by unfold maxLen; omega) (by omega) (by simp; omega) _ rfl ?_))
      intro t2 c2 w3 hown hgrow hat _
      have HE := Lib.hid (row_end HW.out.2 hsz HRO.out hown hgrow)
      clear hown hgrow hat
      go_wp2_with fail
      go_roundw
      case rel => exact ⟨k + 1, L ++ [z0], .slice (some ⟨t2, 0, none⟩) (L.length + 1) c2, by omega, by go_num, rfl, HLN, HE⟩
      case measure => simp [intOf]; omega
    · obtain rfl : n = k := by omega
      have d1 : decide ((n : Int) < (n : Int)) = false := by simp
      clear hlt hk
      have HE := HW
      obtain ⟨w3, rfl⟩ : ∃ w3 : World, w3 = wo := ⟨_, rfl⟩
      have HLX : Hid (L = ownedTo D D.lats.length 0) := Lib.hid (by rw [← HN.out]; exact HLI.out)
      clear HLI HW
      have HLI := HLX
      clear HLX
      go_wp2_with fail
      clear x0 hlen hsz hX HN hn1 d1
      obtain ⟨n, hn⟩ : ∃ n, n = D.gates.length := ⟨_, rfl⟩
      have HN := Lib.hid hn
      have hn1 : n ≤ 1000 := by rw [hn]; exact HL.out.g
      clear hn
      go_loopw [3, 5] (fun l i wr => ∃ (k : Nat) (L : List Int) (lv : Value), k ≤ n ∧ i = .int .i64 k ∧ l = lv ∧ Hid (L = ownedTo D D.lats.length k) ∧ Hid (wr.ownsRow v.heap.size 3 1 lv L.length (L.map (Value.int .i64)) ∧ Below v.heap.size v wr)) (fun _ i _ => n - (intOf i).toNat)
      case atStart => exact ⟨0, _, _, Nat.zero_le _, by go_num, rfl, HLI, HE⟩
      case round =>
        clear HE HLI
        obtain ⟨k, L, lv, hk, rfl, hlv, HLI, HW⟩ := hrel
        obtain rfl : lv = _ := hlv.symm
        obtain ⟨wo, rfl⟩ : ∃ wo : World, wo = wr := ⟨_, rfl⟩
        have hX := HX.out.lt
        have hsz := HW.out.2.size
        have x0 : wo.cell? ⟨w.heap.size, 6, none⟩ = some (.slice F.ag D.gates.length F.cg) := ((HX.out.on HW.out.2).cell 6).1
        rw [← HN.out] at x0
        have hlen : L.length ≤ 3000 := by rw [HLI.out]; exact owned_len D HL.out _ _
        by_cases hlt : k < n
        · have hlt' : k < D.gates.length := by rw [← HN.out]; exact hlt
          obtain ⟨b, off, hba, hlb, e0, e1, e2⟩ := Rw.at3 (HI.out.on HW.out.2).g hlt'
          rw [hba] at x0
          have HST := Lib.hid (owned_gate D D.lats.length hlt')
          obtain ⟨z0, hz⟩ : ∃ z0, z0 = (D.gates.getD k (0, 0, 0)).1 := ⟨_, rfl⟩
          rw [← hz] at e0 HST
          have HLN : Hid (L ++ [z0] = ownedTo D D.lats.length (k + 1)) := Lib.hid (by rw [HLI.out]; exact HST.out.symm)
          clear hba hz e1 e2 hlt' HST
          have d1 : decide ((k : Int) < (n : Int)) = true := by simp; omega
          have d2 : 0 ≤ (k : Int) := by omega
          have HRO := Lib.hid HW.out.1
          have HROW := Lib.hid (own_on HRO.out ((Below.refl _ wo).alloc (Nat.le_refl _) (.cells #[.int .i64 z0] 3)))
          go_wp2_with (go_loud (at_builtin; refine wpList_append_lies _ rfl (.tmp 33) (.tmp 40) 22 rfl v.heap.size 3 i0 (.int .i64 0) 1 8 Try.underlying22 hi hz0 hz1 hz2 rfl (by decide) lv L.length (L.map (Value.int .i64)) rfl HROW.out ⟨wo.heap.size, 0, none⟩ 1 1 [.int .i64 z0] rfl rfl (news1 _ _ _) (one_cell _) (by omega) (by unfold maxLen; omega) (by omega) (by simp; omega) _ rfl ?_))
          intro t2 c2 w3 hown hgrow hat _
          have HE := Lib.hid (row_end HW.out.2 hsz HRO.out hown hgrow)
          clear hown hgrow hat
          go_wp2_with fail
          go_roundw
          case rel => exact ⟨k + 1, L ++ [z0], .slice (some ⟨t2, 0, none⟩) (L.length + 1) c2, by omega, by go_num, rfl, HLN, HE⟩
          case measure => simp [intOf]; omega
        · obtain rfl : n = k := by omega
          have d1 : decide ((n : Int) < (n : Int)) = false := by simp
          clear hlt hk
          have HT : Hid (Tells (ownedL D) w (.returned lv) wo) := Lib.hid (by
            rw [← HALL.out, ← HN.out, ← HLI.out]
            exact ⟨lv, rfl, Joins.ownsRow_le HW.out.1 HB.out.size, HB.out.trans (HW.out.2.mono HB.out.size)⟩)
          go_wp2_with fail
          go_ret
          exact HT.out
end Go.Proofs.Ytbpjflghkkkenaa.row

/- The walk of the document's Used. (Printed by mkN7.py.) -/
namespace Go.Proofs.Ytbpjflghkkkenaa.row
open Go.RowKit
open Go.Proofs.Ytbpjflghkkkenaa.mem (own_on addr_add)
open Go.Proofs.Ytbpjflghkkkenaa.ints (Ints)
open Go.Proofs.Ytbpjflghkkkenaa.aig (row_end news1 one_cell)

theorem news2 (w : World) (x y : Value) (t : TypeId) : ∀ j u, ([x, y] : List Value)[j]? = some u → (w.alloc (.cells #[x, y] t)).cell? ((⟨w.heap.size, 0, none⟩ : Addr).add j) = some u := by
  intro j u h
  have hn := blk_new w #[x, y] t
  rw [addr_add, Nat.zero_add, (hn.cell j).1]
  simpa using h
theorem two_cell (x y : Int) : ∀ u ∈ ([.int .i64 x, .int .i64 y] : List Value), u.oneCell' = true := by
  intro u hu
  simp at hu
  rcases hu with rfl | rfl <;> rfl
theorem row_endL {base : Nat} {lv v' : Value} {L M : List Int} {w w1 w2 : World} (hb : Below base w w1) (hs : base ≤ w1.heap.size) (hrow : w1.ownsRow base 3 1 lv L.length (L.map (Value.int .i64)))
    (hown : w2.ownsRow base 3 1 v' (L.length + M.length) (L.map (Value.int .i64) ++ M.map (Value.int .i64))) (hg : w1.grownBy w2 lv.ownBlock) :
    w2.ownsRow base 3 1 v' (L ++ M).length ((L ++ M).map (Value.int .i64)) ∧ Below base w w2 :=
  ⟨by rw [List.map_append, List.length_append]; exact hown, hb.grown hg hs (fun k hk => (hrow.lt k hk).1)⟩
/-- a row of one's own, and all else as it was -/
def RowI (B : Nat) (W : World) (L : List Int) (v : Value) (w : World) : Prop := w.ownsRow B 3 1 v L.length (L.map (Value.int .i64)) ∧ Below B W w
/-- 'append(l, x...)' for a row of one's own and a slice that reads as numbers -/
theorem wpList_appI {ops : Array Oper} {rest : List Oper} {o : Oper} {a : Act} {Q : Exit → Act → World → Prop} {P : Nat → Prop} {w W : World} {lv v : Value} {L ys : List Int}
    (hgd : Region.wanted o (yielded ops a.tmps) = true) (s x : Operand) (ho : o.op = .call { callee := .builtin .append, args := #[s, x], argTypes := #[22, 22] }) (B : Nat)
    (hs : a.eval s = lv) (hx : a.eval x = v) (hown : RowI B W L lv w) (hv : Rw enc1 1 P w v ys) (hfit : L.length + ys.length ≤ 4000) (hB : B ≤ w.heap.size)
    (h : ∀ v' w', RowI B W (L ++ ys) v' w' → wpList Try.prog ops Q rest (a.put o.dst v') w') : wpList Try.prog ops Q (o :: rest) a w := by
  obtain ⟨i0, hi, hz0, hz1, hz2⟩ := info_parts infoI1
  refine wpList_step fun K hK => ?_
  rw [if_pos hgd]
  obtain ⟨ao, cap, rfl, q1, q2, q3⟩ := hv.form
  cases ao with
  | none =>
    obtain rfl := q3 rfl
    have h0 : ys.length = 0 := by omega
    obtain rfl : ys = [] := List.eq_nil_of_length_eq_zero h0
    have hrun := run_append_owned_none (P := Try.prog) (w := w) B 22 o.type 3 i0 1 Try.underlying22 hi _ _ _ hown.1
    have h1 := hK _ _ (h lv w (by rw [List.append_nil]; exact hown))
    unfold Oper.wp
    simp only [List.length_nil] at hx
    simp [execOp, ho, resolve, invoke, builtin, hs, hx, hrun, Result.andThen]
    exact h1
  | some ad =>
    refine wp_append_own _ s x 22 ho B 3 i0 (.int .i64 0) 1 8 Try.underlying22 hi hz0 hz1 hz2 rfl (by decide) lv L.length _ hs hown.1 ad ys.length cap (ys.map (Value.int .i64)) hx (by simp) ?_ ?_ (by unfold maxLen; omega) (by omega) hB ?_
    · rw [← flat1]; exact hv.news enc1_len (by decide)
    · intro u hu
      obtain ⟨z, -, rfl⟩ := List.mem_map.1 hu
      rfl
    · intro v' w' h1 h2 _
      exact hK _ _ (h v' w' (row_endL hown.2 hB hown.1 h1 h2))
/-- the literals that are used; some of them -/
def usedTo (D : CD) (j k : Nat) : List Int := D.outs ++ D.bads ++ D.cons ++ (D.lats.take j).map (fun t => t.2.1) ++ (D.gates.take k).flatMap (fun t => [t.2.1, t.2.2])
def usedL (D : CD) : List Int := D.outs ++ D.bads ++ D.cons ++ D.lats.map (fun t => t.2.1) ++ D.gates.flatMap (fun t => [t.2.1, t.2.2])
theorem used_all (D : CD) : usedTo D D.lats.length D.gates.length = usedL D := by unfold usedTo usedL; rw [List.take_length, List.take_length]
theorem used_lat (D : CD) {j : Nat} (h : j < D.lats.length) : usedTo D (j + 1) 0 = usedTo D j 0 ++ [(D.lats.getD j (0, 0, 0)).2.1] := by
  unfold usedTo
  rw [take_snoc _ h]; simp
theorem used_gate (D : CD) (j : Nat) {k : Nat} (h : k < D.gates.length) : usedTo D j (k + 1) = usedTo D j k ++ [(D.gates.getD k (0, 0, 0)).2.1, (D.gates.getD k (0, 0, 0)).2.2] := by
  unfold usedTo
  rw [List.take_succ_eq_append_getElem h, List.flatMap_append]
  simp [List.getD, h]
theorem flat_two (ts : List Tri) : (ts.flatMap (fun t => [t.2.1, t.2.2])).length = 2 * ts.length := by
  induction ts with
  | nil => rfl
  | cons t ts ih => rw [List.flatMap_cons, List.length_append, ih]; simp; omega
theorem used_len (D : CD) (h : Lens D) (j k : Nat) : (usedTo D j k).length ≤ 6000 := by
  have := h.o; have := h.b; have := h.c; have := h.l; have := h.g
  unfold usedTo
  simp only [List.length_append, List.length_map, List.length_take, flat_two]; omega
theorem row_endA {base : Nat} {lv v' : Value} {L M : List Int} {w w1 w2 : World} {o : Obj} (hb : Below base w w1) (hs : base ≤ w1.heap.size) (hrow : w1.ownsRow base 3 1 lv L.length (L.map (Value.int .i64)))
    (hown : w2.ownsRow base 3 1 v' (L.length + M.length) (L.map (Value.int .i64) ++ M.map (Value.int .i64))) (hg : (w1.alloc o).grownBy w2 lv.ownBlock) :
    w2.ownsRow base 3 1 v' (L ++ M).length ((L ++ M).map (Value.int .i64)) ∧ Below base w w2 :=
  ⟨by rw [List.map_append, List.length_append]; exact hown, (hb.alloc hs o).grown hg (by simp; omega) (fun k hk => (hrow.lt k hk).1)⟩
set_option maxRecDepth 100000 in
set_option maxHeartbeats 3200000 in
theorem refUsed_any (D : CD) (F : CF) (P : Nat → Prop) (w : World) (hc : InC P w D F) (hl : Lens D) :
    Calls Try.prog 23 #[cval D F] w (Tells (usedL D) w) := by
  obtain ⟨i0, hi, hz0, hz1, hz2⟩ := info_parts infoI1
  have HL := Lib.hid hl
  have HC := Lib.hid hc
  have HALL := Lib.hid (used_all D)
  clear hc hl
  go_enter Try.func23, Try.ntmps23
  go_upto_region 1 with fail
  have X0 := blk_new w (ccells D F) 27
  have B0 : Below w.heap.size w (w.alloc (.cells (ccells D F) 27)) := (Below.refl _ _).alloc (Nat.le_refl _) _
  have I0 := HC.out.on B0
  clear HC
  generalize w.alloc (.cells (ccells D F) 27) = v at *
  have HX := Lib.hid X0
  have HB := Lib.hid B0
  have HI := Lib.hid I0
  have hX := X0.lt
  have bE : Below v.heap.size v (v.alloc (.cells #[] 3)) := (Below.refl _ _).alloc (Nat.le_refl _) _
  have x1 : (v.alloc (.cells #[] 3)).cell? ⟨w.heap.size, 3, none⟩ = some (.slice F.ao D.outs.length F.co) := ((X0.on bE).cell 3).1
  have HBE := Lib.hid bE
  clear X0 B0 I0 bE
  go_wp2_with (at_builtin; refine wpList_cloneR (by simp [Region.wanted]) (.tmp 6) (.tmp 8) 22 3 i0 (.int .i64 0) 8 rfl Try.underlying22 hi hz0 hz1 hz2 rfl (by decide) enc1_len v.heap.size v.heap.size (Nat.le_refl _) (blkE v) rfl rfl (HI.out.on HBE.out).o (by have := HL.out.o; omega) ?_)
  intro lv0 w2 hown hb2
  have HE0 : Hid (RowI v.heap.size v D.outs lv0 w2) := Lib.hid ⟨by rw [← flat1]; exact hown, HBE.out.trans (hb2.mono (by simp))⟩
  clear hown hb2 x1
  have x2 : w2.cell? ⟨w.heap.size, 4, none⟩ = some (.slice F.ab D.bads.length F.cb) := ((HX.out.on HE0.out.2).cell 4).1
  go_wp2_with (at_builtin; refine wpList_appI (by simp [Region.wanted]) (.tmp 10) (.tmp 12) rfl v.heap.size rfl rfl HE0.out (HI.out.on HE0.out.2).b (by have := HL.out.o; have := HL.out.b; omega) HE0.out.2.size ?_)
  intro lv1 w3 he1
  have HE1 := Lib.hid he1
  clear he1 x2
  have x3 : w3.cell? ⟨w.heap.size, 5, none⟩ = some (.slice F.ac D.cons.length F.cc) := ((HX.out.on HE1.out.2).cell 5).1
  go_wp2_with (at_builtin; refine wpList_appI (by simp [Region.wanted]) (.tmp 14) (.tmp 16) rfl v.heap.size rfl rfl HE1.out (HI.out.on HE1.out.2).c (by have := HL.out.o; have := HL.out.b; have := HL.out.c; simp; omega) HE1.out.2.size ?_)
  intro lv2 w4 he2
  have HE : Hid (w4.ownsRow v.heap.size 3 1 lv2 (D.outs ++ D.bads ++ D.cons).length ((D.outs ++ D.bads ++ D.cons).map (Value.int .i64)) ∧ Below v.heap.size v w4) := Lib.hid (by have h := he2; rw [← List.append_assoc] at h; exact h)
  clear he2 x3
  have HLI : Hid (D.outs ++ D.bads ++ D.cons = usedTo D 0 0) := Lib.hid (by unfold usedTo; simp)
  go_wp2_with fail
  obtain ⟨n, hn⟩ : ∃ n, n = D.lats.length := ⟨_, rfl⟩
  have HN := Lib.hid hn
  have hn1 : n ≤ 1000 := by rw [hn]; exact HL.out.l
  clear hn
  go_loopw [3, 4] (fun l i wr => ∃ (k : Nat) (L : List Int) (lv : Value), k ≤ n ∧ i = .int .i64 k ∧ l = lv ∧ Hid (L = usedTo D k 0) ∧ Hid (wr.ownsRow v.heap.size 3 1 lv L.length (L.map (Value.int .i64)) ∧ Below v.heap.size v wr)) (fun _ i _ => n - (intOf i).toNat)
  case atStart => exact ⟨0, _, _, Nat.zero_le _, by go_num, rfl, HLI, HE⟩
  case round =>
    clear HE HLI
    obtain ⟨k, L, lv, hk, rfl, hlv, HLI, HW⟩ := hrel
    obtain rfl : lv = _ := hlv.symm
    obtain ⟨wo, rfl⟩ : ∃ wo : World, wo = wr := ⟨_, rfl⟩
    have hX := HX.out.lt
    have hsz := HW.out.2.size
    have x0 : wo.cell? ⟨w.heap.size, 2, none⟩ = some (.slice F.al D.lats.length F.cl) := ((HX.out.on HW.out.2).cell 2).1
    rw [← HN.out] at x0
    have hlen : L.length ≤ 6000 := by rw [HLI.out]; exact used_len D HL.out _ _
    by_cases hlt : k < n
    · have hlt' : k < D.lats.length := by rw [← HN.out]; exact hlt
      obtain ⟨b, off, hba, hlb, e0, e1, e2⟩ := Rw.at3 (HI.out.on HW.out.2).l hlt'
      rw [hba] at x0
      have HST := Lib.hid (used_lat D hlt')
      obtain ⟨z0, hz⟩ : ∃ z0, z0 = (D.lats.getD k (0, 0, 0)).2.1 := ⟨_, rfl⟩
      rw [← hz] at e1 HST
      have HLN : Hid (L ++ [z0] = usedTo D (k + 1) 0) := Lib.hid (by rw [HLI.out]; exact HST.out.symm)
      clear hba hz e0 e2 hlt' HST
      have d1 : decide ((k : Int) < (n : Int)) = true := by simp; omega
      have d2 : 0 ≤ (k : Int) := by omega
      have HRO := Lib.hid HW.out.1
      have HROW := Lib.hid (own_on HRO.out ((Below.refl _ wo).alloc (Nat.le_refl _) (.cells #[.int .i64 z0] 3)))
      go_wp2_with (go_loud (at_builtin; refine wpList_append_lies _ rfl (.tmp 25) (.tmp 32) 22 rfl v.heap.size 3 i0 (.int .i64 0) 1 8 Try.underlying22 hi hz0 hz1 hz2 rfl (by decide) lv L.length (L.map (Value.int .i64)) rfl HROW.out ⟨wo.heap.size, 0, none⟩ 1 1 [.int .i64 z0] rfl rfl (news1 _ _ _) (one_cell _) (by omega) (by unfold maxLen; omega) (by omega) (by simp; omega) _ rfl ?_))
      intro t2 c2 w3 hown hgrow hat _
      have HE := Lib.hid (row_end HW.out.2 hsz HRO.out hown hgrow)
      clear hown hgrow hat
      go_wp2_with fail
      go_roundw
      case rel => exact ⟨k + 1, L ++ [z0], .slice (some ⟨t2, 0, none⟩) (L.length + 1) c2, by omega, by go_num, rfl, HLN, HE⟩
      case measure => simp [intOf]; omega
    · obtain rfl : n = k := by omega
      have d1 : decide ((n : Int) < (n : Int)) = false := by simp
      clear hlt hk
      have HE := HW
      obtain ⟨w3, rfl⟩ : ∃ w3 : World, w3 = wo := ⟨_, rfl⟩
      have HLX : Hid (L = usedTo D D.lats.length 0) := Lib.hid (by rw [← HN.out]; exact HLI.out)
      clear HLI HW
      have HLI := HLX
      clear HLX
      go_wp2_with fail
      clear x0 hlen hsz hX HN hn1 d1
      obtain ⟨n, hn⟩ : ∃ n, n = D.gates.length := ⟨_, rfl⟩
      have HN := Lib.hid hn
      have hn1 : n ≤ 1000 := by rw [hn]; exact HL.out.g
      clear hn
      go_loopw [3, 5] (fun l i wr => ∃ (k : Nat) (L : List Int) (lv : Value), k ≤ n ∧ i = .int .i64 k ∧ l = lv ∧ Hid (L = usedTo D D.lats.length k) ∧ Hid (wr.ownsRow v.heap.size 3 1 lv L.length (L.map (Value.int .i64)) ∧ Below v.heap.size v wr)) (fun _ i _ => n - (intOf i).toNat)
      case atStart => exact ⟨0, _, _, Nat.zero_le _, by go_num, rfl, HLI, HE⟩
      case round =>
        clear HE HLI
        obtain ⟨k, L, lv, hk, rfl, hlv, HLI, HW⟩ := hrel
        obtain rfl : lv = _ := hlv.symm
        obtain ⟨wo, rfl⟩ : ∃ wo : World, wo = wr := ⟨_, rfl⟩
        have hX := HX.out.lt
        have hsz := HW.out.2.size
        have x0 : wo.cell? ⟨w.heap.size, 6, none⟩ = some (.slice F.ag D.gates.length F.cg) := ((HX.out.on HW.out.2).cell 6).1
        rw [← HN.out] at x0
        have hlen : L.length ≤ 6000 := by rw [HLI.out]; exact used_len D HL.out _ _
        by_cases hlt : k < n
        · have hlt' : k < D.gates.length := by rw [← HN.out]; exact hlt
          obtain ⟨b, off, hba, hlb, e0, e1, e2⟩ := Rw.at3 (HI.out.on HW.out.2).g hlt'
          rw [hba] at x0
          have HST := Lib.hid (used_gate D D.lats.length hlt')
          obtain ⟨z1, hz1'⟩ : ∃ z, z = (D.gates.getD k (0, 0, 0)).2.1 := ⟨_, rfl⟩
          obtain ⟨z2, hz2'⟩ : ∃ z, z = (D.gates.getD k (0, 0, 0)).2.2 := ⟨_, rfl⟩
          rw [← hz1'] at e1 HST
          rw [← hz2'] at e2 HST
          have HLN : Hid (L ++ [z1, z2] = usedTo D D.lats.length (k + 1)) := Lib.hid (by rw [HLI.out]; exact HST.out.symm)
          have KN : Hid (∀ u, Below v.heap.size v u → u.cell? ⟨w.heap.size, 6, none⟩ = some (.slice (some ⟨b, off, none⟩) n F.cg) ∧ u.cell? ⟨b, off + k * 3 + 1, none⟩ = some (.int .i64 z1) ∧ u.cell? ⟨b, off + k * 3 + 2, none⟩ = some (.int .i64 z2)) := Lib.hid (fun u hu => by
            have hg := Rw.at3 (HI.out.on hu).g (i := k) hlt'
            obtain ⟨b2, off2, h1, -, -, h2, h3⟩ := hg
            rw [hba] at h1
            obtain ⟨rfl, rfl⟩ : b = b2 ∧ off = off2 := by simpa using h1
            rw [hz1', hz2']
            refine ⟨?_, h2, h3⟩
            have hx := ((HX.out.on hu).cell 6).1
            rw [HN.out, ← hba]; exact hx)
          clear hba hz1' hz2' e0 hlt' HST
          have d1 : decide ((k : Int) < (n : Int)) = true := by simp; omega
          have d2 : 0 ≤ (k : Int) := by omega
          have hXo : w.heap.size < wo.heap.size := by omega
          have HRO : Hid ((wo.drewN 1).ownsRow v.heap.size 3 1 lv L.length (L.map (Value.int .i64))) := Lib.hid HW.out.1
          have HBW : Hid (Below v.heap.size v (wo.drewN 1)) := Lib.hid (Go.Proofs.Ytbpjflghkkkenaa.ints.below_drewN HW.out.2 1)
          have hsz1 : v.heap.size ≤ (wo.drewN 1).heap.size := hsz
          have HROW := Lib.hid (own_on HRO.out ((Below.refl _ (wo.drewN 1)).alloc (Nat.le_refl _) (.cells #[.int .i64 z1, .int .i64 z2] 3)))
          go_upto_region 11 with fail
          go_region_held3 (fun w' => w'.cell? ⟨w.heap.size, 6, none⟩ = some (.slice (some ⟨b, off, none⟩) n F.cg) ∧ w'.cell? ⟨b, off + k * 3 + 1, none⟩ = some (.int .i64 z1) ∧ w'.cell? ⟨b, off + k * 3 + 2, none⟩ = some (.int .i64 z2)) (first | (exact KN.out _ hbe.2) | go_keep) (first | (refine step_append_lies _ rfl (.tmp 41) (.tmp 54) 22 rfl v.heap.size 3 i0 (.int .i64 0) 1 8 Try.underlying22 hi hz0 hz1 hz2 rfl (by decide) lv L.length (L.map (Value.int .i64)) rfl HROW.out ⟨(wo.drewN 1).heap.size, 0, none⟩ 2 2 [.int .i64 z1, .int .i64 z2] rfl rfl (news2 _ _ _ _) (two_cell _ _) (by omega) (by unfold maxLen; omega) (by omega) (by simp; omega) _ rfl ?_; intro t2 c2 y3 hown hgrow hat hlt3; have hbe := row_endA (M := [z1, z2]) HBW.out hsz1 HRO.out hown hgrow))
          have HE := Lib.hid hbe
          clear hown hgrow hat hbe
          go_wp2_with fail
          go_roundw
          case rel => exact ⟨k + 1, L ++ [z1, z2], .slice (some ⟨t2, 0, none⟩) (L.length + 2) c2, by omega, by go_num, rfl, HLN, HE⟩
          case measure => simp [intOf]; omega
        · obtain rfl : n = k := by omega
          have d1 : decide ((n : Int) < (n : Int)) = false := by simp
          clear hlt hk
          have HT : Hid (Tells (usedL D) w (.returned lv) wo) := Lib.hid (by
            rw [← HALL.out, ← HN.out, ← HLI.out]
            exact ⟨lv, rfl, Joins.ownsRow_le HW.out.1 HB.out.size, HB.out.trans (HW.out.2.mono HB.out.size)⟩)
          go_wp2_with fail
          go_ret
          exact HT.out
end Go.Proofs.Ytbpjflghkkkenaa.row
