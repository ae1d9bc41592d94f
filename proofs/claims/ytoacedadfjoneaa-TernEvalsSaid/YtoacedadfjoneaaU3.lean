/- Words as arguments; what the project's values that may be open have to be; the example. (Printed by mkU3.py.) -/
import Derived.Test.YtoacedadfjoneaaU2
import Derived.Test.YtoacedadfjoneaaSm
import Derived.Test.YtoacedadfjoneaaTw
namespace Go.Proofs.Ytoacedadfjoneaa.aig
open Go.ChangeShapes Go.WideShapes Go.ChangeAt Go.RowKit
open Go.Proofs.Ytoacedadfjoneaa.mem Go.Proofs.Ytoacedadfjoneaa.agf Go.Proofs.Ytoacedadfjoneaa.fns
open Go.Proofs.Ytoacedadfjoneaa.ints (Ints ints_of_owned refInts_any refInts_same)
open Go.Proofs.Ytoacedadfjoneaa.tri (tLit)

/-- two cells a word -/
def wordCells (ws : List (Int × Int)) : List Value := ws.flatMap fun p => [.int .u64 p.1, .int .u64 p.2]
theorem wordCells_len (ws : List (Int × Int)) : (wordCells ws).length = ws.length * 2 := by
  induction ws with
  | nil => rfl
  | cons p ws ih => show (wordCells ws).length + 2 = _; rw [ih, List.length_cons]; omega
theorem wordCells_at : ∀ (ws : List (Int × Int)) (i : Nat), i < ws.length → (wordCells ws)[i * 2]? = some (.int .u64 (ws.getD i (0, 0)).1) ∧ (wordCells ws)[i * 2 + 1]? = some (.int .u64 (ws.getD i (0, 0)).2) := by
  intro ws
  induction ws with
  | nil => intro i h; simp at h
  | cons p ws ih =>
    intro i h
    cases i with
    | zero => exact ⟨rfl, rfl⟩
    | succ i =>
      obtain ⟨h1, h2⟩ := ih i (by simpa using h)
      have e : wordCells (p :: ws) = .int .u64 p.1 :: .int .u64 p.2 :: wordCells ws := rfl
      rw [e, show (i + 1) * 2 = i * 2 + 1 + 1 by omega, show i * 2 + 1 + 1 + 1 = (i * 2 + 1) + 1 + 1 by omega]
      simp only [List.getElem?_cons_succ]
      exact ⟨by simpa [List.getD] using h1, by simpa [List.getD] using h2⟩
theorem wordCells_one (ws : List (Int × Int)) : ∀ u ∈ wordCells ws, u.oneCell' = true := by
  intro u hu
  obtain ⟨p, -, hp⟩ := List.mem_flatMap.1 hu
  simp at hp
  rcases hp with rfl | rfl <;> rfl
/-- words that a slice holds -/
def Wds (w : World) (v : Value) (ws : List (Int × Int)) : Prop :=
  ∃ (a : Option Addr) (cap : Nat), v = .slice a ws.length cap ∧ ws.length ≤ cap ∧ cap ≤ maxLen ∧
    (0 < ws.length → ∃ b off, a = some ⟨b, off, none⟩ ∧ b < w.heap.size ∧ ∀ i, i < ws.length →
      w.cell? ⟨b, off + i * 2, none⟩ = some (.int .u64 (ws.getD i (0, 0)).1) ∧ w.cell? ⟨b, off + i * 2 + 1, none⟩ = some (.int .u64 (ws.getD i (0, 0)).2))
theorem Wds.on {w w' : World} {v : Value} {ws : List (Int × Int)} (h : Wds w v ws) (hb : Below w.heap.size w w') : Wds w' v ws := by
  obtain ⟨a, cap, hv, h1, h2, h3⟩ := h
  refine ⟨a, cap, hv, h1, h2, fun hp => ?_⟩
  obtain ⟨b, off, ha, hlt, hc⟩ := h3 hp
  exact ⟨b, off, ha, Nat.lt_of_lt_of_le hlt hb.size, fun i hi => ⟨(hb.cell (p := ⟨b, off + i * 2, none⟩) hlt).trans (hc i hi).1, (hb.cell (p := ⟨b, off + i * 2 + 1, none⟩) hlt).trans (hc i hi).2⟩⟩
theorem Wds.form {w : World} {v : Value} {ws : List (Int × Int)} (h : Wds w v ws) : ∃ a cap, v = .slice a ws.length cap ∧ ws.length ≤ cap ∧ cap ≤ maxLen := by
  obtain ⟨a, cap, hv, h1, h2, -⟩ := h; exact ⟨a, cap, hv, h1, h2⟩
theorem Wds.at_ {w : World} {a : Option Addr} {m cap : Nat} {ws : List (Int × Int)} (h : Wds w (.slice a m cap) ws) {i : Nat} (hi : i < m) : ∃ b off, a = some ⟨b, off, none⟩ ∧ b < w.heap.size ∧
    w.cell? ⟨b, off + i * 2, none⟩ = some (.int .u64 (ws.getD i (0, 0)).1) ∧ w.cell? ⟨b, off + i * 2 + 1, none⟩ = some (.int .u64 (ws.getD i (0, 0)).2) := by
  obtain ⟨a', cap', hv, h1, h2, h3⟩ := h
  obtain ⟨rfl, rfl, rfl⟩ := Value.slice.inj hv
  obtain ⟨b, off, ha, hlt, hc⟩ := h3 (by omega)
  exact ⟨b, off, ha, hlt, hc i hi⟩
theorem wds_row {w : World} {base : Nat} {v : Value} {ws : List (Int × Int)} (h : w.ownsRow base 33 2 v ws.length (wordCells ws)) : Wds w v ws := by
  rcases h.2 with ⟨rfl, h0⟩ | ⟨g, cap, cur, rfl, hb, hg, hn, hm, hs, ht⟩
  · exact ⟨none, 0, by rw [h0], by omega, by unfold maxLen; omega, fun hp => by omega⟩
  · refine ⟨some ⟨g, 0, none⟩, cap, rfl, hn, hm, fun hp => ⟨g, 0, rfl, (Array.getElem?_eq_some_iff.1 hg).1, fun i hi => ?_⟩⟩
    obtain ⟨k1, k2⟩ := wordCells_at ws i hi
    exact ⟨by rw [Nat.zero_add, h.cellAt _ (by omega), k1], by rw [Nat.zero_add, h.cellAt _ (by omega), k2]⟩
theorem infoW : (Try.prog.info? 33).map (fun i => (i.zero, i.size, i.bytes)) = some (some (.agg #[.int .u64 0, .int .u64 0]), 2, 16) := by kernel_rfl
theorem cellsW : Try.prog.cellsOf 33 = 2 := by kernel_rfl
theorem cellsU : Try.prog.cellsOf 31 = 1 := by kernel_rfl
theorem u64_read {H : Type} {enc : TypeId × Value → H} {W : World} {fuel : Nat} {v : Value} {y : DataW H × List MemPlace} (h : DataW.trod enc Try.prog W 0 (fun _ => true) true fuel 31 [v] = some y) : ∃ z, v = .int .u64 z ∧ fns.In64 z := by
  obtain ⟨z, e, -, wz⟩ := DataW.trod_int Try.underlying31 h
  have hb := bounds_u64 wz
  exact ⟨z, by simpa using e, hb.1, by omega⟩
/-- an argument that is a slice of words, opened -/
theorem wds_open {H : Type} {enc : TypeId × Value → H} {W : World} {a : Option Addr} {n cap : Nat} {d : DataW H} {p : List MemPlace}
    (h : DataW.Trod enc Try.prog W 0 (fun _ => true) true 24 (.slice a n cap) d p) : ∃ ws, Wds W (.slice a n cap) ws ∧ (∀ q ∈ ws, fns.In64 q.1 ∧ fns.In64 q.2) ∧ (∀ n' c', Value.slice a n cap = .slice none n' c' → n' = 0) := by
  obtain ⟨fuel, hf⟩ := h
  rcases Deep.open_slice_pairs Try.underlying24 Try.underlying33 cellsW rfl rfl cellsU cellsU hf with ⟨hcs, _⟩ | ⟨x, l, c, m, fu, V0, V1, D0, D1, P0, P1, hcs, _, hl, hm, hmm, _, hcell⟩
  · simp [Value.cells] at hcs
    obtain ⟨rfl, rfl, rfl⟩ := hcs
    exact ⟨[], ⟨none, 0, rfl, Nat.le_refl _, by unfold maxLen; omega, fun hp => by simp at hp⟩, fun q hq => by simp at hq, fun n' c' e => by obtain ⟨-, e, -⟩ := Value.slice.inj e; exact e.symm⟩
  · simp [Value.cells] at hcs
    obtain ⟨rfl, rfl, rfl⟩ := hcs
    simp only [if_true] at hmm
    have each : ∀ i, i < n → ∃ q : Int × Int, V0 i = .int .u64 q.1 ∧ V1 i = .int .u64 q.2 ∧ fns.In64 q.1 ∧ fns.In64 q.2 := by
      intro i hi
      obtain ⟨-, -, g0, g1⟩ := hcell i (by omega)
      obtain ⟨z0, e0, w0⟩ := u64_read g0
      obtain ⟨z1, e1, w1⟩ := u64_read g1
      exact ⟨(z0, z1), e0, e1, w0, w1⟩
    obtain ⟨q, hq⟩ := Deep.choose_lt each
    have hlen : ((List.range n).map q).length = n := by simp
    have hget : ∀ i, i < n → ((List.range n).map q).getD i (0, 0) = q i := fun i hi => by simp [List.getD, hi]
    refine ⟨(List.range n).map q, ⟨some x, cap, by rw [hlen], by omega, hm, fun hp => ?_⟩, fun r hr => ?_, fun n' c' e => by obtain ⟨e, -, -⟩ := Value.slice.inj e; cases e⟩
    · rw [hlen] at hp
      obtain ⟨b, off, spot⟩ := x
      have hc := (hcell 0 (by omega)).1
      have hspot : spot = none := by simpa [Addr.add] using World.cell?_spot hc
      subst hspot
      have hlt : b < W.heap.size := by
        have := World.block_lt_of_cell? W _ hc
        simpa [Addr.add] using this
      refine ⟨b, off, rfl, hlt, fun i hi => ?_⟩
      rw [hlen] at hi
      obtain ⟨h0, h1, -, -⟩ := hcell i (by omega)
      obtain ⟨e0, e1, -, -⟩ := hq i hi
      rw [addr_add, e0] at h0
      rw [addr_add, e1] at h1
      rw [hget i hi]
      exact ⟨h0, by rw [Nat.add_assoc]; exact h1⟩
    · obtain ⟨i, hi, rfl⟩ := List.mem_map.1 hr
      exact (hq i (List.mem_range.1 hi)).2.2
/-- 'append([]bool{}, l...)', of any that there can be -/
theorem wpList_cloneK {ops : Array Oper} {rest : List Oper} {o : Oper} {act : Act} {Q : Exit → Act → World → Prop} (w : World) (hgd : Region.wanted o (yielded ops act.tmps) = true) (s x : Operand)
    (ho : o.op = .call { callee := .builtin .append, args := #[s, x], argTypes := #[35, 35] })
    (hs : act.eval s = .slice (some ⟨w.heap.size, 0, none⟩) 0 0) (v : Value) (bs : List Bool) (hx : act.eval x = v) (hv : KB w v bs) (hnil : ∀ n c, v = .slice none n c → n = 0) (hsz : bs.length ≤ 140737488355328)
    (h : ∀ v' w', KB w' v' bs → Below w.heap.size w w' → wpList Try.prog ops Q rest (act.put o.dst v') w') :
    wpList Try.prog ops Q (o :: rest) act (w.alloc (.cells #[] 4)) := by
  obtain ⟨i0, hi, hz0, hz1, hz2⟩ := info_parts infoB
  have hmade : (w.alloc (.cells #[] 4)).ownsRow w.heap.size 4 1 (.slice (some ⟨w.heap.size, 0, none⟩) 0 0) 0 [] := World.ownsRow_made _ #[] 0 (Nat.le_refl _) (by unfold maxLen; omega) rfl
  have hb0 : Below w.heap.size w (w.alloc (.cells #[] 4)) := (Below.refl _ w).alloc (Nat.le_refl _) _
  obtain ⟨a, cap, rfl, l1, l2, hc⟩ := hv
  unfold maxLen at l2
  refine wpList_step fun K hK => ?_
  rw [if_pos hgd]
  cases a with
  | none =>
    obtain rfl : bs = [] := List.eq_nil_of_length_eq_zero (hnil _ _ rfl)
    have h1 := hK _ _ (h (.slice (some ⟨w.heap.size, 0, none⟩) 0 0) (w.alloc (.cells #[] 4)) ⟨_, _, rfl, Nat.le_refl _, by unfold maxLen; omega, fun hp => by simp at hp⟩ hb0)
    unfold Oper.wp
    simp [execOp, ho, resolve, invoke, builtin, hs, hx, Result.andThen]
    exact h1
  | some ad =>
    have hnews : ∀ (j : Nat) (u : Value), (bs.map Value.bool)[j]? = some u → (w.alloc (.cells #[] 4)).cell? (ad.add j) = some u := by
      intro j u hj
      have hl := (List.getElem?_eq_some_iff.1 hj).1
      rw [List.length_map] at hl
      obtain ⟨b, off, ha, hlt, hcell⟩ := hc (by omega)
      obtain rfl := Option.some.inj ha
      rw [addr_add, (hb0.cell (p := ⟨b, off + j, none⟩) hlt).trans (hcell j hl), ← hj, List.getElem?_map, List.getElem?_eq_getElem hl]
      simp [List.getD, hl]
    refine wp_append_own _ s x 35 ho w.heap.size 4 i0 (.bool false) 1 1 Try.underlying35 hi hz0 hz1 hz2 rfl (by decide) _ _ _ hs hmade ad bs.length cap (bs.map Value.bool) hx (by simp) hnews (bools_one bs) (by unfold maxLen; omega) (by omega) (by simp) ?_
    intro v1 w1 hown1 hgrow _
    exact hK _ _ (h _ _ (kb_row (base := w.heap.size) (by simpa using hown1)) (hb0.grown hgrow (by simp) (fun k hk => (hmade.lt k hk).1)))
/-- 'append([]tri.Word{}, l...)' -/
theorem wpList_cloneW {ops : Array Oper} {rest : List Oper} {o : Oper} {act : Act} {Q : Exit → Act → World → Prop} (w : World) (hgd : Region.wanted o (yielded ops act.tmps) = true) (s x : Operand)
    (ho : o.op = .call { callee := .builtin .append, args := #[s, x], argTypes := #[24, 24] })
    (hs : act.eval s = .slice (some ⟨w.heap.size, 0, none⟩) 0 0) (v : Value) (bs : List (Int × Int)) (hx : act.eval x = v) (hv : Wds w v bs) (hnil : ∀ n c, v = .slice none n c → n = 0) (hsz : bs.length ≤ 1000)
    (h : ∀ v' w', Wds w' v' bs → Below w.heap.size w w' → wpList Try.prog ops Q rest (act.put o.dst v') w') :
    wpList Try.prog ops Q (o :: rest) act (w.alloc (.cells #[] 33)) := by
  obtain ⟨i0, hi, hz0, hz1, hz2⟩ := info_parts infoW
  have hmade : (w.alloc (.cells #[] 33)).ownsRow w.heap.size 33 2 (.slice (some ⟨w.heap.size, 0, none⟩) 0 0) 0 [] := World.ownsRow_made _ #[] 0 (Nat.le_refl _) (by unfold maxLen; omega) rfl
  have hb0 : Below w.heap.size w (w.alloc (.cells #[] 33)) := (Below.refl _ w).alloc (Nat.le_refl _) _
  obtain ⟨a, cap, rfl, l1, l2, hc⟩ := hv
  unfold maxLen at l2
  refine wpList_step fun K hK => ?_
  rw [if_pos hgd]
  cases a with
  | none =>
    obtain rfl : bs = [] := List.eq_nil_of_length_eq_zero (hnil _ _ rfl)
    have h1 := hK _ _ (h (.slice (some ⟨w.heap.size, 0, none⟩) 0 0) (w.alloc (.cells #[] 33)) ⟨_, _, rfl, Nat.le_refl _, by unfold maxLen; omega, fun hp => by simp at hp⟩ hb0)
    unfold Oper.wp
    simp [execOp, ho, resolve, invoke, builtin, hs, hx, Result.andThen]
    exact h1
  | some ad =>
    have hnews : ∀ (j : Nat) (u : Value), (wordCells bs)[j]? = some u → (w.alloc (.cells #[] 33)).cell? (ad.add j) = some u := by
      intro j u hj
      have hl := (List.getElem?_eq_some_iff.1 hj).1
      rw [wordCells_len] at hl
      obtain ⟨b, off, ha, hlt, hcell⟩ := hc (by omega)
      obtain rfl := Option.some.inj ha
      obtain ⟨i, hi⟩ : ∃ i, j = i * 2 ∨ j = i * 2 + 1 := ⟨j / 2, by omega⟩
      have hil : i < bs.length := by omega
      obtain ⟨k1, k2⟩ := wordCells_at bs i hil
      obtain ⟨c1, c2⟩ := hcell i hil
      rw [addr_add, hb0.cell (p := ⟨b, off + j, none⟩) hlt, ← hj]
      rcases hi with rfl | rfl
      · rw [c1, k1]
      · rw [← Nat.add_assoc, c2, k2]
    refine wp_append_own _ s x 24 ho w.heap.size 33 i0 (.agg #[.int .u64 0, .int .u64 0]) 2 16 Try.underlying24 hi hz0 hz1 hz2 rfl (by decide) _ _ _ hs hmade ad bs.length cap (wordCells bs) hx (wordCells_len bs) hnews (wordCells_one bs) (by unfold maxLen; omega) (by omega) (by simp) ?_
    intro v1 w1 hown1 hgrow _
    exact hK _ _ (h _ _ (wds_row (base := w.heap.size) (by simpa using hown1)) (hb0.grown hgrow (by simp) (fun k hk => (hmade.lt k hk).1)))
/-- how a list is told -/
def TellsI (L : List Int) (w : World) (e : Ending) (w' : World) : Prop := ∃ u, e = .returned u ∧ Ints w' u L ∧ Below w.heap.size w w'
theorem told_tellsI {L : List Int} {w w' : World} {e : Ending} (h : Told L w e w') : TellsI L w e w' := by
  obtain ⟨v, h1, h2, h3⟩ := h
  exact ⟨v, h1, ints_of_owned h2, h3⟩
/-- words that are the values of a net's variables, 64 times, by words of its inputs -/
structure WordsOk (N : Net) (ws rs : List (Int × Int)) : Prop where
  len : rs.length = N.length + 1
  fit : ∀ v, v < rs.length → fns.In64 (rs.getD v (0, 0)).1 ∧ fns.In64 (rs.getD v (0, 0)).2
  apart : ∀ v, v < rs.length → bits .and .u64 (rs.getD v (0, 0)).1 (rs.getD v (0, 0)).2 = 0
  is_ : ∀ i : Nat, i < 64 → ∀ v, v < rs.length → tAt (rs.getD v (0, 0)).1 (rs.getD v (0, 0)).2 (i : Int) = (tSt (ws.map fun p => tAt p.1 p.2 (i : Int)) N).1.getD v 0
/-- what the project's values that may be open have to be -/
structure TernOk : Prop where
  eval : ∀ (v u : Value) (ns : List (Int × Int)) (zs : List Int) (w : World), KNds (fun _ => False) w v ns → GoodN ns → ns.length ≤ 1000 → Ints w u zs → zs.length ≤ 1000 →
    Calls Try.prog 9 #[v, u] w (TellsI (tSt zs (ns.map absN)).1 w)
  words : ∀ (v u : Value) (ns ws : List (Int × Int)) (w : World), KNds (fun _ => False) w v ns → GoodN ns → ns.length ≤ 1000 → Wds w u ws → (∀ p ∈ ws, fns.In64 p.1 ∧ fns.In64 p.2) → ws.length ≤ 1000 →
    Calls Try.prog 11 #[v, u] w fun e w' => ∃ u rs, e = .returned u ∧ Wds w' u rs ∧ WordsOk (ns.map absN) ws rs ∧ Below w.heap.size w w'
  sure : ∀ (v u l : Value) (ns : List (Int × Int)) (zs ls : List Int) (w : World), KNds (fun _ => False) w v ns → GoodN ns → ns.length ≤ 1000 → Ints w u zs → zs.length ≤ 1000 → Ints w l ls → ls.length ≤ 1000 →
    Calls Try.prog 13 #[v, u, l] w fun e w' => e = .returned (.bool (tSure (ns.map absN) zs ls)) ∧ Below w.heap.size w w'
  drop : ∀ (v u l k : Value) (ns : List (Int × Int)) (zs ls : List Int) (ks : List Bool) (w : World), KNds (fun _ => False) w v ns → GoodN ns → ns.length ≤ 1000 → Ints w u zs → zs.length ≤ 1000 → Ints w l ls → ls.length ≤ 1000 → KB w k ks →
    Calls Try.prog 15 #[v, u, l, k] w (TellsI (tDrop (ns.map absN) zs ls ks) w)
theorem ints_lit10 (w : World) (cs : Array Value) (t : TypeId) (zs : List Int) (h : cs = (zs.map (Value.int .i64)).toArray) (h1 : zs.length ≤ 1000) : Ints (w.alloc (.cells cs t)) (.slice (some ⟨w.heap.size, 0, none⟩) zs.length zs.length) zs := by
  subst h
  refine ⟨_, _, rfl, Nat.le_refl _, by unfold maxLen; omega, fun _ => ⟨w.heap.size, 0, rfl, by simp, fun i hi => ?_⟩⟩
  have hb : (w.alloc (.cells (zs.map (Value.int .i64)).toArray t)).heap[w.heap.size]? = some (.cells (zs.map (Value.int .i64)).toArray t (0, 0)) := by
    show (w.heap.push _)[w.heap.size]? = _
    rw [Array.getElem?_push, if_pos rfl]
  rw [Nat.zero_add, Joins.cell_of_block hb i]
  simp [List.getD, hi]
/-- the net of the example -/
def exN10 : List (Int × Int) := [(-1, 0), (-1, 0), (3, 4)]
theorem ex10_good : GoodN exN10 := okB_good (by decide)
theorem ex10_eval : (tSt [1, 2] (exN10.map absN)).1 = [0, 1, 2, 0] := by decide
theorem ex10_drop : tDrop (exN10.map absN) [1, 0] [7] [] = [2, 0] := by decide
theorem ex10_keep : tDrop (exN10.map absN) [1, 2] [7] [] = [1, 2] := by decide
theorem kb_nil (w : World) : KB w (.slice none 0 0) [] := ⟨none, 0, rfl, Nat.le_refl _, by unfold maxLen; omega, fun hp => by simp at hp⟩
set_option maxHeartbeats 1600000 in
theorem lives10_any (C : TernOk) (w : World) : Calls Try.prog 7 #[] w fun e w' => e = .returned (.bool true) ∧ Below w.heap.size w w' := by
  have HKN : Hid (KNds (fun _ => False) (w.alloc (.cells #[.int .i64 (-1), .int .i64 0, .int .i64 (-1), .int .i64 0, .int .i64 3, .int .i64 4] 40)) (.slice (some ⟨w.heap.size, 0, none⟩) 3 3) exN10) := Lib.hid (knds_lit w _ _ exN10 rfl (by decide))
  have HB0 : Hid (Below w.heap.size w (w.alloc (.cells #[.int .i64 (-1), .int .i64 0, .int .i64 (-1), .int .i64 0, .int .i64 3, .int .i64 4] 40))) := Lib.hid (alloc_below _ _)
  go_enter Try.func7, Try.ntmps7
  go_upto_region 2 with fail
  obtain ⟨W1, hW1⟩ : ∃ W1, W1 = w.alloc (.cells #[.int .i64 (-1), .int .i64 0, .int .i64 (-1), .int .i64 0, .int .i64 3, .int .i64 4] 40) := ⟨_, rfl⟩
  rw [← hW1] at HKN HB0 ⊢
  clear hW1
  go_wp2_with fail
  go_at_call 9; refine (C.eval _ _ exN10 [1, 2] _ (HKN.out.on (alloc_below _ _)) ex10_good (by decide) (ints_lit10 W1 _ _ [1, 2] rfl (by decide)) (by decide)).mono ?_; rintro e w2 ⟨u, rfl, t2, b2⟩
  rw [ex10_eval] at t2
  have hb := (alloc_below W1 (.cells #[.int .i64 1, .int .i64 2] 3)).trans (b2.mono (by simp))
  have HB2 := Lib.hid (HB0.out.trans (hb.mono HB0.out.size))
  have HK2 := Lib.hid (HKN.out.on hb)
  have HT2 := Lib.hid t2
  clear t2 b2 hb
  go_wp2_with fail
  go_at_call 8; refine (refInts_same (xs := [0, 1, 2, 0]) rfl (Ints.on HT2.out (alloc_below _ _)) (ints_lit10 w2 _ _ [0, 1, 2, 0] rfl (by decide))).mono ?_; rintro e w3 ⟨rfl, b3⟩
  have hb := (alloc_below w2 (.cells #[.int .i64 0, .int .i64 1, .int .i64 2, .int .i64 0] 3)).trans (b3.mono (by simp))
  have HB3 := Lib.hid (HB2.out.trans (hb.mono HB2.out.size))
  have HK3 := Lib.hid (HK2.out.on hb)
  clear b3 hb HT2 HB2 HK2
  have hA := alloc_below w3 (.cells #[.int .i64 1, .int .i64 0] 3)
  have hB := alloc_below (w3.alloc (.cells #[.int .i64 1, .int .i64 0] 3)) (.cells #[.int .i64 7] 3)
  have HAB : Hid (Below w3.heap.size w3 ((w3.alloc (.cells #[.int .i64 1, .int .i64 0] 3)).alloc (.cells #[.int .i64 7] 3))) := Lib.hid (hA.trans (hB.mono hA.size))
  have HI1 : Hid (Ints ((w3.alloc (.cells #[.int .i64 1, .int .i64 0] 3)).alloc (.cells #[.int .i64 7] 3)) (.slice (some ⟨w3.heap.size, 0, none⟩) 2 2) [1, 0]) := Lib.hid (Ints.on (ints_lit10 w3 _ _ [1, 0] rfl (by decide)) hB)
  have HI2 : Hid (Ints ((w3.alloc (.cells #[.int .i64 1, .int .i64 0] 3)).alloc (.cells #[.int .i64 7] 3)) (.slice (some ⟨w3.heap.size + 1, 0, none⟩) 1 1) [7]) := Lib.hid (by
    have h := ints_lit10 (w3.alloc (.cells #[.int .i64 1, .int .i64 0] 3)) #[.int .i64 7] 3 [7] rfl (by decide)
    simpa using h)
  clear hA hB
  go_wp2_with fail
  go_at_call 15; refine (C.drop _ _ _ _ exN10 [1, 0] [7] [] _ (HK3.out.on HAB.out) ex10_good (by decide) HI1.out (by decide) HI2.out (by decide) (kb_nil _)).mono ?_; rintro e w4 ⟨u3, rfl, t4, b4⟩
  rw [ex10_drop] at t4
  have hb := HAB.out.trans (b4.mono HAB.out.size)
  have HBx := Lib.hid (HB3.out.trans (hb.mono HB3.out.size))
  have HKx := Lib.hid (HK3.out.on hb)
  have HT4 := Lib.hid t4
  clear t4 b4 hb HAB HI1 HI2 HB3 HK3
  go_wp2_with fail
  go_at_call 8; refine (refInts_same (xs := [2, 0]) rfl (Ints.on HT4.out (alloc_below _ _)) (ints_lit10 w4 _ _ [2, 0] rfl (by decide))).mono ?_; rintro e w5 ⟨rfl, b5⟩
  have hb := (alloc_below w4 (.cells #[.int .i64 2, .int .i64 0] 3)).trans (b5.mono (by simp))
  have HB5 := Lib.hid (HBx.out.trans (hb.mono HBx.out.size))
  have HK5 := Lib.hid (HKx.out.on hb)
  clear b5 hb HT4 HBx HKx
  have hA := alloc_below w5 (.cells #[.int .i64 1, .int .i64 2] 3)
  have hB := alloc_below (w5.alloc (.cells #[.int .i64 1, .int .i64 2] 3)) (.cells #[.int .i64 7] 3)
  have HAB : Hid (Below w5.heap.size w5 ((w5.alloc (.cells #[.int .i64 1, .int .i64 2] 3)).alloc (.cells #[.int .i64 7] 3))) := Lib.hid (hA.trans (hB.mono hA.size))
  have HI1 : Hid (Ints ((w5.alloc (.cells #[.int .i64 1, .int .i64 2] 3)).alloc (.cells #[.int .i64 7] 3)) (.slice (some ⟨w5.heap.size, 0, none⟩) 2 2) [1, 2]) := Lib.hid (Ints.on (ints_lit10 w5 _ _ [1, 2] rfl (by decide)) hB)
  have HI2 : Hid (Ints ((w5.alloc (.cells #[.int .i64 1, .int .i64 2] 3)).alloc (.cells #[.int .i64 7] 3)) (.slice (some ⟨w5.heap.size + 1, 0, none⟩) 1 1) [7]) := Lib.hid (by
    have h := ints_lit10 (w5.alloc (.cells #[.int .i64 1, .int .i64 2] 3)) #[.int .i64 7] 3 [7] rfl (by decide)
    simpa using h)
  clear hA hB
  go_wp2_with fail
  go_at_call 15; refine (C.drop _ _ _ _ exN10 [1, 2] [7] [] _ (HK5.out.on HAB.out) ex10_good (by decide) HI1.out (by decide) HI2.out (by decide) (kb_nil _)).mono ?_; rintro e w6 ⟨u5, rfl, t4, b4⟩
  rw [ex10_keep] at t4
  have hb := HAB.out.trans (b4.mono HAB.out.size)
  have HBx := Lib.hid (HB5.out.trans (hb.mono HB5.out.size))
  have HKx := Lib.hid (HK5.out.on hb)
  have HT4 := Lib.hid t4
  clear t4 b4 hb HAB HI1 HI2 HB5 HK5
  go_wp2_with fail
  go_at_call 8; refine (refInts_same (xs := [1, 2]) rfl (Ints.on HT4.out (alloc_below _ _)) (ints_lit10 w6 _ _ [1, 2] rfl (by decide))).mono ?_; rintro e w7 ⟨rfl, b5⟩
  have hb := (alloc_below w6 (.cells #[.int .i64 1, .int .i64 2] 3)).trans (b5.mono (by simp))
  have HB7 := Lib.hid (HBx.out.trans (hb.mono HBx.out.size))
  have HK7 := Lib.hid (HKx.out.on hb)
  clear b5 hb HT4 HBx HKx
  go_wp2_with fail
  go_ret
  exact ⟨rfl, HB7.out⟩
end Go.Proofs.Ytoacedadfjoneaa.aig
