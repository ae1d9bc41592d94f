/- Small nets; literals of slices; arguments' copies. -/
import Derived.Test.YtoacedadfjoneaaA9
import Derived.Test.YtoacedadfjoneaaBe
import Derived.Test.YtoacedadfjoneaaVr
import Derived.Laws.AppendOwnNone
namespace Go.Proofs.Ytoacedadfjoneaa.aig
open Go.RowKit
open Go.Proofs.Ytoacedadfjoneaa.mem Go.Proofs.Ytoacedadfjoneaa.agf
open Go.Proofs.Ytoacedadfjoneaa.nats (Rd U rd_len rd_cell rd_form Rd.on rd_of_owned rd_empty)

theorem Small8_any (P : Nat → Prop) (v : Value) (ns : List (Int × Int)) (c : Int) (w : World) (hv : KNds P w v ns) (h0 : 0 ≤ c) (h1 : c ≤ 1000) :
    Calls Try.prog 6 #[v, .int .i64 c] w fun e w' => e = .returned (.bool (decide ((ns.length : Int) ≤ c) && okB ns)) ∧ w = w' := by
  obtain ⟨a, cap, rfl, l1, l2⟩ := hv.form
  unfold maxLen at l2
  have HV := Lib.hid hv
  obtain ⟨m, hm⟩ : ∃ m, m = ns.length := ⟨_, rfl⟩
  rw [← hm] at l1 HV ⊢
  have HM := Lib.hid hm
  clear hv hm
  by_cases h60 : (m : Int) ≤ c
  · have t0 : decide ((m : Int) ≤ c) = true := by simp; omega
    have HR : Hid ((decide ((m : Int) ≤ c) && okB ns) = (chk ns == 0)) := Lib.hid (by rw [t0]; unfold chk; cases okB ns <;> rfl)
    go_enter Try.func6, Try.ntmps6
    go_wp2_with fail
    go_at_call 18; refine (refCheck_any P _ ns _ HV.out (by rw [← HM.out]; omega)).mono ?_; rintro e w' ⟨rfl, rfl⟩
    go_wp2_with fail
    go_ret
    exact ⟨mem.retB HR.out.symm, rfl⟩
  · have t0 : decide ((m : Int) ≤ c) = false := by simp; omega
    go_enter Try.func6, Try.ntmps6
    go_wp2_with fail
    go_ret
    exact ⟨rfl, rfl⟩
theorem Small8_of {P : Nat → Prop} {v : Value} {ns : List (Int × Int)} {c : Int} {b : Bool} (h : (decide ((ns.length : Int) ≤ c) && okB ns) = b) (w : World) (hv : KNds P w v ns) (h0 : 0 ≤ c) (h1 : c ≤ 1000) :
    Calls Try.prog 6 #[v, .int .i64 c] w fun e w' => e = .returned (.bool b) ∧ w = w' := by
  have := Small8_any P v ns c w hv h0 h1; rw [h] at this; exact this
theorem small_no {ns : List (Int × Int)} {c : Int} (h : ¬ ((ns.length : Int) ≤ c ∧ okB ns = true)) : (decide ((ns.length : Int) ≤ c) && okB ns) = false := by
  cases hk : okB ns with
  | false => simp
  | true =>
    rw [decide_eq_false (fun e => h ⟨e, hk⟩)]; rfl
theorem small_yes {ns : List (Int × Int)} {c : Int} (h : (ns.length : Int) ≤ c ∧ okB ns = true) : (decide ((ns.length : Int) ≤ c) && okB ns) = true := by
  rw [decide_eq_true h.1, h.2]; rfl
theorem alloc_below (w : World) (o : Obj) : Below w.heap.size w (w.alloc o) := (Below.refl _ _).alloc (Nat.le_refl _) _
theorem knds_lit (w : World) (cs : Array Value) (t : TypeId) (ns : List (Int × Int)) (h : cs = (nodeCells ns).toArray) (h1 : ns.length ≤ 1000) : KNds (fun _ => False) (w.alloc (.cells cs t)) (.slice (some ⟨w.heap.size, 0, none⟩) ns.length ns.length) ns := by
  subst h
  refine ⟨_, _, rfl, Nat.le_refl _, by unfold maxLen; omega, fun _ => ⟨w.heap.size, 0, rfl, by simp, fun e => e, fun i hi => ?_⟩⟩
  have hb : (w.alloc (.cells (nodeCells ns).toArray t)).heap[w.heap.size]? = some (.cells (nodeCells ns).toArray t (0, 0)) := by
    show (w.heap.push _)[w.heap.size]? = _
    rw [Array.getElem?_push, if_pos rfl]
  obtain ⟨k1, k2⟩ := nodeCells_at ns i hi
  rw [Nat.zero_add, Joins.cell_of_block hb, Joins.cell_of_block hb]
  simp only [List.getElem?_toArray]
  exact ⟨k1, k2⟩
theorem kb_lit (w : World) (cs : Array Value) (t : TypeId) (bs : List Bool) (h : cs = (bs.map Value.bool).toArray) (h1 : bs.length ≤ 1000) : KB (w.alloc (.cells cs t)) (.slice (some ⟨w.heap.size, 0, none⟩) bs.length bs.length) bs := by
  subst h
  refine ⟨_, _, rfl, Nat.le_refl _, by unfold maxLen; omega, fun _ => ⟨w.heap.size, 0, rfl, by simp, fun i hi => ?_⟩⟩
  have hb : (w.alloc (.cells (bs.map Value.bool).toArray t)).heap[w.heap.size]? = some (.cells (bs.map Value.bool).toArray t (0, 0)) := by
    show (w.heap.push _)[w.heap.size]? = _
    rw [Array.getElem?_push, if_pos rfl]
  rw [Nat.zero_add, Joins.cell_of_block hb i]
  simp [List.getD, hi]
theorem knds_old {P : Nat → Prop} {W : World} {v : Value} {ns : List (Int × Int)} (k : KNds P W v ns) : KNds (fun _ => False) W v ns := by
  obtain ⟨a, cap, hv, h1, h2, h3⟩ := k
  exact ⟨a, cap, hv, h1, h2, fun hp => by obtain ⟨b, off, ha, hlt, -, hc⟩ := h3 hp; exact ⟨b, off, ha, hlt, fun e => e, hc⟩⟩
theorem bools_one (bs : List Bool) : ∀ u ∈ bs.map Value.bool, u.oneCell' = true := by
  intro u hu
  obtain ⟨b, -, rfl⟩ := List.mem_map.1 hu
  rfl
theorem words_one (zs : List Nat) : ∀ u ∈ zs.map U, u.oneCell' = true := by
  intro u hu
  obtain ⟨b, -, rfl⟩ := List.mem_map.1 hu
  rfl
/-- 'append([]bool{}, l...)' -/
theorem wpList_cloneB {ops : Array Oper} {rest : List Oper} {o : Oper} {act : Act} {Q : Exit → Act → World → Prop} (w : World) (hgd : Region.wanted o (yielded ops act.tmps) = true) (s x : Operand)
    (ho : o.op = .call { callee := .builtin .append, args := #[s, x], argTypes := #[35, 35] })
    (hs : act.eval s = .slice (some ⟨w.heap.size, 0, none⟩) 0 0) (v : Value) (bs : List Bool) (hx : act.eval x = v) (hv : KB w v bs) (hnil : ∀ n c, v = .slice none n c → n = 0) (hsz : bs.length ≤ 1000)
    (h : ∀ v' w', KB w' v' bs → Below w.heap.size w w' → wpList Try.prog ops Q rest (act.put o.dst v') w') :
    wpList Try.prog ops Q (o :: rest) act (w.alloc (.cells #[] 4)) := by
  obtain ⟨i0, hi, hz0, hz1, hz2⟩ := info_parts infoB
  have hmade : (w.alloc (.cells #[] 4)).ownsRow w.heap.size 4 1 (.slice (some ⟨w.heap.size, 0, none⟩) 0 0) 0 [] := World.ownsRow_made _ #[] 0 (Nat.le_refl _) (by unfold maxLen; omega) rfl
  have hb0 : Below w.heap.size w (w.alloc (.cells #[] 4)) := (Below.refl _ w).alloc (Nat.le_refl _) _
  obtain ⟨a, cap, rfl, l1, l2, hc⟩ := hv
  unfold maxLen at l2
  refine wpList_step fun K hK => ?_
  rw [if_pos hgd]
  cases a with
  | none =>
    obtain rfl : bs = [] := List.eq_nil_of_length_eq_zero (hnil _ _ rfl)
    have h1 := hK _ _ (h (.slice (some ⟨w.heap.size, 0, none⟩) 0 0) (w.alloc (.cells #[] 4)) ⟨_, _, rfl, Nat.le_refl _, by unfold maxLen; omega, fun hp => by simp at hp⟩ hb0)
    unfold Oper.wp
    simp [execOp, ho, resolve, invoke, builtin, hs, hx, Result.andThen]
    exact h1
  | some ad =>
    have hnews : ∀ (j : Nat) (u : Value), (bs.map Value.bool)[j]? = some u → (w.alloc (.cells #[] 4)).cell? (ad.add j) = some u := by
      intro j u hj
      have hl := (List.getElem?_eq_some_iff.1 hj).1
      rw [List.length_map] at hl
      obtain ⟨b, off, ha, hlt, hcell⟩ := hc (by omega)
      obtain rfl := Option.some.inj ha
      rw [addr_add, (hb0.cell (p := ⟨b, off + j, none⟩) hlt).trans (hcell j hl), ← hj, List.getElem?_map, List.getElem?_eq_getElem hl]
      simp [List.getD, hl]
    refine wp_append_own _ s x 35 ho w.heap.size 4 i0 (.bool false) 1 1 Try.underlying35 hi hz0 hz1 hz2 rfl (by decide) _ _ _ hs hmade ad bs.length cap (bs.map Value.bool) hx (by simp) hnews (bools_one bs) (by unfold maxLen; omega) (by omega) (by simp) ?_
    intro v1 w1 hown1 hgrow _
    exact hK _ _ (h _ _ (kb_row (base := w.heap.size) (by simpa using hown1)) (hb0.grown hgrow (by simp) (fun k hk => (hmade.lt k hk).1)))
theorem infoU : (Try.prog.info? 31).map (fun i => (i.zero, i.size, i.bytes)) = some (some (.int .u64 0), 1, 8) := by kernel_rfl
end Go.Proofs.Ytoacedadfjoneaa.aig
