/- Copies of lists as steps of a region: 'append([]int{}, l...)', 'append([]api.Node{}, n...)'. -/
import Derived.Test.YtfdihlicmmcjjaaAs
import Derived.Laws.AppendOwnNone
namespace Go.Proofs.Ytfdihlicmmcjjaa.aig
open Go.RowKit
open Go.Proofs.Ytfdihlicmmcjjaa.mem Go.Proofs.Ytfdihlicmmcjjaa.agf

theorem kints_news {P : Nat → Prop} {w : World} {ad : Addr} {n cap : Nat} {zs : List Int} (h : KInts P w (.slice (some ad) n cap) zs) : zs.length = n ∧ ∀ (j : Nat) (u : Value), (zs.map (Value.int .i64))[j]? = some u → w.cell? (ad.add j) = some u := by
  obtain ⟨a, cap', hv, h1, h2, h3⟩ := h
  obtain ⟨rfl, e, -⟩ := Value.slice.inj hv
  refine ⟨e.symm, fun j u hj => ?_⟩
  have hl := (List.getElem?_eq_some_iff.1 hj).1
  rw [List.length_map] at hl
  obtain ⟨b, off, ha, hlt, -, hc⟩ := h3 (by omega)
  obtain rfl := Option.some.inj ha
  rw [addr_add, hc j hl, ← hj, List.getElem?_map, List.getElem?_eq_getElem hl]
  simp [List.getD, hl]
theorem step_clone {ops : Array Oper} {o : Oper} {a : Act} {K : Act → World → Prop} {Q : Exit → Act → World → Prop} {Z : Prop} (w : World) (hgd : o.guard = none) (s x : Operand)
    (ho : o.op = .call { callee := .builtin .append, args := #[s, x], argTypes := #[27, 27] }) (E : Nat) (hs : a.eval s = .slice (some ⟨E, 0, none⟩) 0 0)
    (hown : w.ownsRow E 3 1 (.slice (some ⟨E, 0, none⟩) 0 0) 0 []) (v : Value) (hx : a.eval x = v) (zs : List Int) (P : Nat → Prop) (hv : KInts P w v zs) (ok : SliceOk v) (hsz : zs.length ≤ 1000)
    (h : ∀ v' w', w'.ownsRow E 3 1 v' zs.length (zs.map (Value.int .i64)) → w.grownBy w' (some E) → K (a.put o.dst v') w') :
    if Region.wanted o (yielded ops a.tmps) = true then Oper.wp Try.prog o a w K Q else Z := by
  have hw : Region.wanted o (yielded ops a.tmps) = true := by simp [Region.wanted, hgd]
  rw [if_pos hw]
  obtain ⟨i0, hi, hz0, hz1, hz2⟩ := info_parts infoI
  have hE : E ≤ w.heap.size := by have := (hown.lt E rfl).2; omega
  rcases ok with rfl | ⟨ad, n, cap, rfl⟩
  · obtain ⟨a', cap', hv', h1, -, -⟩ := hv
    obtain ⟨-, e, -⟩ := Value.slice.inj hv'
    obtain rfl : zs = [] := List.eq_nil_of_length_eq_zero e.symm
    have hrun := run_append_owned_none (P := Try.prog) (w := w) E 27 o.type 3 i0 1 Try.underlying27 hi _ _ _ hown
    have h2 := h _ _ hown (World.grownBy.refl w _)
    unfold Oper.wp
    simp [execOp, ho, resolve, invoke, builtin, hs, hx, hrun, Result.andThen]
    exact h2
  · obtain ⟨hl, hnews⟩ := kints_news hv
    refine wp_append_own _ s x 27 ho E 3 i0 (.int .i64 0) 1 8 Try.underlying27 hi hz0 hz1 hz2 rfl (by decide) _ _ _ hs hown ad n cap (zs.map (Value.int .i64)) hx (by simp [hl]) hnews (ints_oneCell _ zs) (by unfold maxLen; omega) (by omega) hE ?_
    intro v1 w1 hown1 hgrow _
    exact h _ _ (by rw [hl]; simpa using hown1) hgrow
theorem knds_news {P : Nat → Prop} {w : World} {ad : Addr} {n cap : Nat} {ns : List (Int × Int)} (h : KNds P w (.slice (some ad) n cap) ns) : ns.length = n ∧ ∀ (j : Nat) (u : Value), (nodeCells ns)[j]? = some u → w.cell? (ad.add j) = some u := by
  obtain ⟨a, cap', hv, h1, h2, h3⟩ := h
  obtain ⟨rfl, e, -⟩ := Value.slice.inj hv
  refine ⟨e.symm, fun j u hj => ?_⟩
  have hl := (List.getElem?_eq_some_iff.1 hj).1
  rw [nodeCells_len] at hl
  obtain ⟨b, off, ha, hlt, -, hc⟩ := h3 (by omega)
  obtain rfl := Option.some.inj ha
  obtain ⟨k1, k2⟩ := nodeCells_at ns (j / 2) (by omega)
  obtain ⟨c1, c2⟩ := hc (j / 2) (by omega)
  rw [addr_add]
  by_cases hj2 : j % 2 = 0
  · have e2 : j = j / 2 * 2 := by omega
    rw [e2] at hj ⊢
    rw [c1, ← k1, hj]
  · have e2 : j = j / 2 * 2 + 1 := by omega
    rw [e2] at hj ⊢
    rw [← Nat.add_assoc, c2, ← k2, hj]
theorem nodes_oneCell (ns : List (Int × Int)) : ∀ u ∈ nodeCells ns, u.oneCell' = true := by
  intro u hu
  unfold nodeCells at hu
  obtain ⟨p, -, hp⟩ := List.mem_flatMap.1 hu
  simp at hp
  rcases hp with rfl | rfl <;> rfl
theorem step_cloneN {ops : Array Oper} {o : Oper} {a : Act} {K : Act → World → Prop} {Q : Exit → Act → World → Prop} {Z : Prop} (w : World) (hgd : o.guard = none) (s x : Operand)
    (ho : o.op = .call { callee := .builtin .append, args := #[s, x], argTypes := #[22, 22] }) (E : Nat) (hs : a.eval s = .slice (some ⟨E, 0, none⟩) 0 0)
    (hown : w.ownsRow E 54 2 (.slice (some ⟨E, 0, none⟩) 0 0) 0 []) (v : Value) (hx : a.eval x = v) (ns : List (Int × Int)) (P : Nat → Prop) (hv : KNds P w v ns) (ok : SliceOk v) (hsz : ns.length ≤ 1000)
    (h : ∀ v' w', w'.ownsRow E 54 2 v' ns.length (nodeCells ns) → w.grownBy w' (some E) → K (a.put o.dst v') w') :
    if Region.wanted o (yielded ops a.tmps) = true then Oper.wp Try.prog o a w K Q else Z := by
  have hw : Region.wanted o (yielded ops a.tmps) = true := by simp [Region.wanted, hgd]
  rw [if_pos hw]
  obtain ⟨i0, hi, hz0, hz1, hz2⟩ := info_parts infoN
  have hE : E ≤ w.heap.size := by have := (hown.lt E rfl).2; omega
  rcases ok with rfl | ⟨ad, n, cap, rfl⟩
  · obtain ⟨a', cap', hv', h1, -, -⟩ := hv
    obtain ⟨-, e, -⟩ := Value.slice.inj hv'
    obtain rfl : ns = [] := List.eq_nil_of_length_eq_zero e.symm
    have hrun := run_append_owned_none (P := Try.prog) (w := w) E 22 o.type 54 i0 2 Try.underlying22 hi _ _ _ hown
    have h2 := h _ _ hown (World.grownBy.refl w _)
    unfold Oper.wp
    simp [execOp, ho, resolve, invoke, builtin, hs, hx, hrun, Result.andThen]
    exact h2
  · obtain ⟨hl, hnews⟩ := knds_news hv
    refine wp_append_own _ s x 22 ho E 54 i0 _ 2 16 Try.underlying22 hi hz0 hz1 hz2 rfl (by decide) _ _ _ hs hown ad n cap (nodeCells ns) hx (by rw [nodeCells_len, hl]) hnews (nodes_oneCell ns) (by unfold maxLen; omega) (by omega) hE ?_
    intro v1 w1 hown1 hgrow _
    exact h _ _ (by rw [hl]; simpa using hown1) hgrow
/-- a row of one's own as a slice beside a store -/
theorem kints_row {w : World} {E : Nat} {v : Value} {zs : List Int} {P : Nat → Prop} (h : w.ownsRow E 3 1 v zs.length (zs.map (Value.int .i64))) (hP : ∀ k, P k → k < E) : KInts P w v zs := by
  rcases h.2 with ⟨rfl, h0⟩ | ⟨g, cap, cur, rfl, hb, hg, hn, hm, hs, ht⟩
  · exact ⟨none, 0, by rw [h0], by omega, by unfold maxLen; omega, fun hp => by omega⟩
  · refine ⟨some ⟨g, 0, none⟩, cap, rfl, hn, hm, fun hp => ⟨g, 0, rfl, (Array.getElem?_eq_some_iff.1 hg).1, fun e => by have := hP g e; omega, fun i hi => ?_⟩⟩
    rw [Nat.zero_add, h.cellAt i (by omega), List.getElem?_map, List.getElem?_eq_getElem hi]
    simp [List.getD, hi]
theorem knds_row {w : World} {E : Nat} {v : Value} {ns : List (Int × Int)} {P : Nat → Prop} (h : w.ownsRow E 54 2 v ns.length (nodeCells ns)) (hP : ∀ k, P k → k < E) : KNds P w v ns := by
  rcases h.2 with ⟨rfl, h0⟩ | ⟨g, cap, cur, rfl, hb, hg, hn, hm, hs, ht⟩
  · exact ⟨none, 0, by rw [h0], by omega, by unfold maxLen; omega, fun hp => by omega⟩
  · refine ⟨some ⟨g, 0, none⟩, cap, rfl, hn, hm, fun hp => ⟨g, 0, rfl, (Array.getElem?_eq_some_iff.1 hg).1, fun e => by have := hP g e; omega, fun i hi => ?_⟩⟩
    obtain ⟨k1, k2⟩ := nodeCells_at ns i hi
    exact ⟨by rw [Nat.zero_add, h.cellAt _ (by omega), k1], by rw [Nat.zero_add, h.cellAt _ (by omega), k2]⟩
end Go.Proofs.Ytfdihlicmmcjjaa.aig
