/- What the project's cones have to be; the walks of the statements on what literals hang on, and on what hangs on a variable. -/
import Derived.Test.YtbdmndhjbemenaaC4
namespace Go.Proofs.Ytbdmndhjbemenaa.aig
open Go.RowKit
open Go.Proofs.Ytbdmndhjbemenaa.mem Go.Proofs.Ytbdmndhjbemenaa.agf
open Go.Proofs.Ytbdmndhjbemenaa.ints (Ints refInts_any refInts_same ints_of_owned wpList_clone)

/-- how a list is told -/
def TellsL (L : List Int) (w : World) (e : Ending) (w' : World) : Prop := ∃ u, e = .returned u ∧ Ints w' u L ∧ Below w.heap.size w w'
theorem told_tellsL {L : List Int} {w w' : World} {e : Ending} (h : Told L w e w') : TellsL L w e w' := by
  obtain ⟨v, h1, h2, h3⟩ := h
  exact ⟨v, h1, ints_of_owned h2, h3⟩
/-- a list of lists -/
def Grid (w : World) (u : Value) (LL : List (List Int)) : Prop :=
  ∃ (a : Option Addr) (cap : Nat), u = .slice a LL.length cap ∧ LL.length ≤ cap ∧ cap ≤ maxLen ∧ (0 < LL.length → ∃ b off, a = some ⟨b, off, none⟩ ∧ b < w.heap.size ∧ ∀ i, i < LL.length → ∃ v, w.cell? ⟨b, off + i, none⟩ = some v ∧ Ints w v (LL.getD i []))
theorem Grid.on {w w' : World} {u : Value} {LL : List (List Int)} (h : Grid w u LL) (hb : Below w.heap.size w w') : Grid w' u LL := by
  obtain ⟨a, cap, hv, h1, h2, h3⟩ := h
  refine ⟨a, cap, hv, h1, h2, fun hp => ?_⟩
  obtain ⟨b, off, ha, hlt, hc⟩ := h3 hp
  refine ⟨b, off, ha, Nat.lt_of_lt_of_le hlt hb.size, fun i hi => ?_⟩
  obtain ⟨v, h4, h5⟩ := hc i hi
  exact ⟨v, (hb.cell (p := ⟨b, off + i, none⟩) hlt).trans h4, Ints.on h5 hb⟩
/-- what the project's cones have to be -/
structure ConeOk : Prop where
  of : ∀ (v u : Value) (ns : List (Int × Int)) (zs : List Int) (w : World), KNds (fun _ => False) w v ns → GoodN ns → ns.length ≤ 1000 → Ints w u zs → (∀ z ∈ zs, In64 z) → zs.length ≤ 1000 →
    Calls Try.prog 10 #[v, u] w (TellsL (selTo (ofB (ns.map absN) zs) ns.length) w)
  support : ∀ (v u : Value) (ns : List (Int × Int)) (zs : List Int) (w : World), KNds (fun _ => False) w v ns → GoodN ns → ns.length ≤ 1000 → Ints w u zs → (∀ z ∈ zs, In64 z) → zs.length ≤ 1000 →
    Calls Try.prog 12 #[v, u] w (TellsL (selTo (fun i => ofB (ns.map absN) zs i && inB ns i) ns.length) w)
  depth : ∀ (v u : Value) (ns : List (Int × Int)) (zs : List Int) (w : World), KNds (fun _ => False) w v ns → GoodN ns → ns.length ≤ 1000 → Ints w u zs → (∀ z ∈ zs, In64 z) → zs.length ≤ 1000 →
    Calls Try.prog 14 #[v, u] w fun e w' => e = .returned (.int .i64 (depthF (levels ns) ns.length zs)) ∧ Below w.heap.size w w'
  fanouts : ∀ (v : Value) (ns : List (Int × Int)) (w : World), KNds (fun _ => False) w v ns → GoodN ns → ns.length ≤ 1000 →
    Calls Try.prog 16 #[v] w fun e w' => ∃ u, e = .returned u ∧ Grid w' u ((List.range (ns.length + 1)).map fun x => selTo (fanB ns x) ns.length) ∧ Below w.heap.size w w'
  above : ∀ (v : Value) (ns : List (Int × Int)) (x : Int) (w : World), KNds (fun _ => False) w v ns → GoodN ns → ns.length ≤ 1000 → In64 x →
    Calls Try.prog 18 #[v, .int .i64 x] w (TellsL (selTo (aboveB (ns.map absN) x) ns.length) w)
  cut : ∀ (v u : Value) (ns : List (Int × Int)) (zs : List Int) (w : World), KNds (fun _ => False) w v ns → GoodN ns → ns.length ≤ 1000 → Ints w u zs → (∀ z ∈ zs, In64 z) → zs.length ≤ 1000 →
    Calls Try.prog 20 #[v, u] w fun e w' => ∃ nv av, e = .returned (.tuple #[nv, av]) ∧ KNds (fun _ => False) w' nv ((cutTo (ns.map absN) (ofB (ns.map absN) zs) ns.length).1.map conc) ∧ Ints w' av (cutTo (ns.map absN) (ofB (ns.map absN) zs) ns.length).2 ∧ Below w.heap.size w w'

theorem Small8_any (P : Nat → Prop) (v : Value) (ns : List (Int × Int)) (c : Int) (w : World) (hv : KNds P w v ns) (h0 : 0 ≤ c) (h1 : c ≤ 1000) :
    Calls Try.prog 7 #[v, .int .i64 c] w fun e w' => e = .returned (.bool (decide ((ns.length : Int) ≤ c) && okB ns)) ∧ w = w' := by
  obtain ⟨a, cap, rfl, l1, l2⟩ := hv.form
  unfold maxLen at l2
  have HV := Lib.hid hv
  obtain ⟨m, hm⟩ : ∃ m, m = ns.length := ⟨_, rfl⟩
  rw [← hm] at l1 HV ⊢
  have HM := Lib.hid hm
  clear hv hm
  by_cases h60 : (m : Int) ≤ c
  · have t0 : decide ((m : Int) ≤ c) = true := by simp; omega
    have HR : Hid ((decide ((m : Int) ≤ c) && okB ns) = (chk ns == 0)) := Lib.hid (by rw [t0]; unfold chk; cases okB ns <;> rfl)
    go_enter Try.func7, Try.ntmps7
    go_wp2_with fail
    go_at_call 25; refine (refCheck_any P _ ns _ HV.out (by rw [← HM.out]; omega)).mono ?_; rintro e w' ⟨rfl, rfl⟩
    go_wp2_with fail
    go_ret
    exact ⟨mem.retB HR.out.symm, rfl⟩
  · have t0 : decide ((m : Int) ≤ c) = false := by simp; omega
    go_enter Try.func7, Try.ntmps7
    go_wp2_with fail
    go_ret
    exact ⟨rfl, rfl⟩
theorem Small8_of {P : Nat → Prop} {v : Value} {ns : List (Int × Int)} {c : Int} {b : Bool} (h : (decide ((ns.length : Int) ≤ c) && okB ns) = b) (w : World) (hv : KNds P w v ns) (h0 : 0 ≤ c) (h1 : c ≤ 1000) :
    Calls Try.prog 7 #[v, .int .i64 c] w fun e w' => e = .returned (.bool b) ∧ w = w' := by
  have := Small8_any P v ns c w hv h0 h1; rw [h] at this; exact this
theorem ints_lit (w : World) (cs : Array Value) (t : TypeId) (zs : List Int) (h : cs = (zs.map (Value.int .i64)).toArray) (h1 : zs.length ≤ 1000) : Ints (w.alloc (.cells cs t)) (.slice (some ⟨w.heap.size, 0, none⟩) zs.length zs.length) zs := by
  subst h
  refine ⟨_, _, rfl, Nat.le_refl _, by unfold maxLen; omega, fun _ => ⟨w.heap.size, 0, rfl, by simp, fun i hi => ?_⟩⟩
  have hb : (w.alloc (.cells (zs.map (Value.int .i64)).toArray t)).heap[w.heap.size]? = some (.cells (zs.map (Value.int .i64)).toArray t (0, 0)) := by
    show (w.heap.push _)[w.heap.size]? = _
    rw [Array.getElem?_push, if_pos rfl]
  rw [Nat.zero_add, Joins.cell_of_block hb i]
  simp [List.getD, hi]
theorem knds_lit (w : World) (cs : Array Value) (t : TypeId) (ns : List (Int × Int)) (h : cs = (nodeCells ns).toArray) (h1 : ns.length ≤ 1000) : KNds (fun _ => False) (w.alloc (.cells cs t)) (.slice (some ⟨w.heap.size, 0, none⟩) ns.length ns.length) ns := by
  subst h
  refine ⟨_, _, rfl, Nat.le_refl _, by unfold maxLen; omega, fun _ => ⟨w.heap.size, 0, rfl, by simp, fun e => e, fun i hi => ?_⟩⟩
  have hb : (w.alloc (.cells (nodeCells ns).toArray t)).heap[w.heap.size]? = some (.cells (nodeCells ns).toArray t (0, 0)) := by
    show (w.heap.push _)[w.heap.size]? = _
    rw [Array.getElem?_push, if_pos rfl]
  obtain ⟨k1, k2⟩ := nodeCells_at ns i hi
  rw [Nat.zero_add, Joins.cell_of_block hb, Joins.cell_of_block hb]
  simp only [List.getElem?_toArray]
  exact ⟨k1, k2⟩
/-- the net of the example -/
def exN : List (Int × Int) := [(-1, 0), (-1, 0), (2, 4), (-1, 0)]
theorem ex_good : GoodN exN := okB_good (by decide)
theorem ex_of : selTo (ofB (exN.map absN) [7]) exN.length = [1, 2, 3] := by decide
theorem ex_sup : selTo (fun i => ofB (exN.map absN) [7] i && inB exN i) exN.length = [1, 2] := by decide
theorem ex_above : selTo (aboveB (exN.map absN) 1) exN.length = [1, 3] := by decide
theorem alloc_below (w : World) (o : Obj) : Below w.heap.size w (w.alloc o) := (Below.refl _ _).alloc (Nat.le_refl _) _
theorem in64_lit (z : Int) (h : -10 ≤ z ∧ z ≤ 10) : In64 z := by unfold In64; omega
set_option maxHeartbeats 1600000 in
theorem lives8_any (C : ConeOk) (w : World) : Calls Try.prog 8 #[] w fun e w' => e = .returned (.bool true) ∧ Below w.heap.size w w' := by
  have HKN : Hid (KNds (fun _ => False) (w.alloc (.cells #[.int .i64 (-1), .int .i64 0, .int .i64 (-1), .int .i64 0, .int .i64 2, .int .i64 4, .int .i64 (-1), .int .i64 0] 37)) (.slice (some ⟨w.heap.size, 0, none⟩) 4 4) exN) := Lib.hid (knds_lit w _ _ exN rfl (by decide))
  have HB0 : Hid (Below w.heap.size w (w.alloc (.cells #[.int .i64 (-1), .int .i64 0, .int .i64 (-1), .int .i64 0, .int .i64 2, .int .i64 4, .int .i64 (-1), .int .i64 0] 37))) := Lib.hid (alloc_below _ _)
  have H7 : Hid (∀ z ∈ ([7] : List Int), In64 z) := Lib.hid (fun z hz => by simp at hz; subst hz; exact in64_lit _ (by omega))
  go_enter Try.func8, Try.ntmps8
  go_upto_region 2 with fail
  obtain ⟨W1, hW1⟩ : ∃ W1, W1 = w.alloc (.cells #[.int .i64 (-1), .int .i64 0, .int .i64 (-1), .int .i64 0, .int .i64 2, .int .i64 4, .int .i64 (-1), .int .i64 0] 37) := ⟨_, rfl⟩
  rw [← hW1] at HKN HB0 ⊢
  clear hW1
  go_wp2_with fail
  go_at_call 10; refine (C.of _ _ exN [7] _ (HKN.out.on (alloc_below _ _)) ex_good (by decide) (ints_lit W1 _ _ [7] rfl (by decide)) H7.out (by decide)).mono ?_; rintro e w2 ⟨u, rfl, t2, b2⟩
  rw [ex_of] at t2
  have HB2 := Lib.hid (HB0.out.trans (((alloc_below W1 (.cells #[.int .i64 7] 3)).trans (b2.mono (by simp))).mono HB0.out.size))
  have HK2 := Lib.hid (HKN.out.on ((alloc_below W1 (.cells #[.int .i64 7] 3)).trans (b2.mono (by simp))))
  have HI2 := Lib.hid t2
  clear t2 b2
  go_wp2_with fail
  go_at_call 9; refine (refInts_same (xs := [1, 2, 3]) rfl (Ints.on HI2.out (alloc_below _ _)) (ints_lit w2 _ _ [1, 2, 3] rfl (by decide))).mono ?_; rintro e w3 ⟨rfl, b3⟩
  have hb := (alloc_below w2 (.cells #[.int .i64 1, .int .i64 2, .int .i64 3] 3)).trans (b3.mono (by simp))
  have HB3 := Lib.hid (HB2.out.trans (hb.mono HB2.out.size))
  have HK3 := Lib.hid (HK2.out.on hb)
  clear b3 hb HI2 HK2 HB2
  go_wp2_with fail
  go_at_call 12; refine (C.support _ _ exN [7] _ (HK3.out.on (alloc_below _ _)) ex_good (by decide) (ints_lit w3 _ _ [7] rfl (by decide)) H7.out (by decide)).mono ?_; rintro e w4 ⟨u4, rfl, t4, b4⟩
  rw [ex_sup] at t4
  have hb := (alloc_below w3 (.cells #[.int .i64 7] 3)).trans (b4.mono (by simp))
  have HB4 := Lib.hid (HB3.out.trans (hb.mono HB3.out.size))
  have HK4 := Lib.hid (HK3.out.on hb)
  have HI4 := Lib.hid t4
  clear t4 b4 hb HK3 HB3
  go_wp2_with fail
  go_at_call 9; refine (refInts_same (xs := [1, 2]) rfl (Ints.on HI4.out (alloc_below _ _)) (ints_lit w4 _ _ [1, 2] rfl (by decide))).mono ?_; rintro e w5 ⟨rfl, b5⟩
  have hb := (alloc_below w4 (.cells #[.int .i64 1, .int .i64 2] 3)).trans (b5.mono (by simp))
  have HB5 := Lib.hid (HB4.out.trans (hb.mono HB4.out.size))
  have HK5 := Lib.hid (HK4.out.on hb)
  clear b5 hb HI4 HK4 HB4
  go_wp2_with fail
  go_at_call 18; refine (C.above _ exN 1 _ HK5.out ex_good (by decide) (in64_lit _ (by omega))).mono ?_; rintro e w6 ⟨u6, rfl, t6, b6⟩
  rw [ex_above] at t6
  have HB6 := Lib.hid (HB5.out.trans (b6.mono HB5.out.size))
  have HI6 := Lib.hid t6
  clear t6 b6 HK5 HB5
  go_wp2_with fail
  go_at_call 9; refine (refInts_same (xs := [1, 3]) rfl (Ints.on HI6.out (alloc_below _ _)) (ints_lit w6 _ _ [1, 3] rfl (by decide))).mono ?_; rintro e w7 ⟨rfl, b7⟩
  have hb := (alloc_below w6 (.cells #[.int .i64 1, .int .i64 3] 3)).trans (b7.mono (by simp))
  have HB7 := Lib.hid (HB6.out.trans (hb.mono HB6.out.size))
  clear b7 hb
  go_wp2_with fail
  go_ret
  exact ⟨rfl, HB7.out⟩
end Go.Proofs.Ytbdmndhjbemenaa.aig
