import Derived.Test.YtbpjflghkkkenaaMg9
/- Slices beside a store; the walk of the document's All. -/
namespace Go.Proofs.Ytbpjflghkkkenaa.aig
open Go.RowKit
open Go.Proofs.Ytbpjflghkkkenaa.mem Go.Proofs.Ytbpjflghkkkenaa.agf

/-- a slice of ints that lies in none of the blocks of P -/
def KInts (P : Nat → Prop) (w : World) (v : Value) (zs : List Int) : Prop :=
  ∃ (a : Option Addr) (cap : Nat), v = .slice a zs.length cap ∧ zs.length ≤ cap ∧ cap ≤ maxLen ∧
    (0 < zs.length → ∃ b off, a = some ⟨b, off, none⟩ ∧ b < w.heap.size ∧ ¬ P b ∧ ∀ i, i < zs.length → w.cell? ⟨b, off + i, none⟩ = some (.int .i64 (zs.getD i 0)))
theorem KInts.move {P P' : Nat → Prop} {w w' : World} {v : Value} {zs : List Int} (h : KInts P w v zs) (m : Moved P P' w w') : KInts P' w' v zs := by
  obtain ⟨a, cap, hv, h1, h2, h3⟩ := h
  refine ⟨a, cap, hv, h1, h2, fun hp => ?_⟩
  obtain ⟨b, off, ha, hlt, hn, hc⟩ := h3 hp
  refine ⟨b, off, ha, Nat.lt_of_lt_of_le hlt m.only.size, fun hb => ?_, fun i hi => ?_⟩
  · rcases m.own b hb with e | e
    · exact hn e
    · omega
  · exact (World.cell?_of_block (w := w) (a := ⟨b, off + i, none⟩) (m.only.block b hlt hn)).trans (hc i hi)
/-- nodes that a slice holds, in none of the blocks of P -/
def KNds (P : Nat → Prop) (w : World) (v : Value) (ns : List (Int × Int)) : Prop :=
  ∃ (a : Option Addr) (cap : Nat), v = .slice a ns.length cap ∧ ns.length ≤ cap ∧ cap ≤ maxLen ∧
    (0 < ns.length → ∃ b off, a = some ⟨b, off, none⟩ ∧ b < w.heap.size ∧ ¬ P b ∧ ∀ i, i < ns.length →
      w.cell? ⟨b, off + i * 2, none⟩ = some (.int .i64 (ns.getD i (0, 0)).1) ∧ w.cell? ⟨b, off + i * 2 + 1, none⟩ = some (.int .i64 (ns.getD i (0, 0)).2))
theorem KNds.move {P P' : Nat → Prop} {w w' : World} {v : Value} {ns : List (Int × Int)} (h : KNds P w v ns) (m : Moved P P' w w') : KNds P' w' v ns := by
  obtain ⟨a, cap, hv, h1, h2, h3⟩ := h
  refine ⟨a, cap, hv, h1, h2, fun hp => ?_⟩
  obtain ⟨b, off, ha, hlt, hn, hc⟩ := h3 hp
  refine ⟨b, off, ha, Nat.lt_of_lt_of_le hlt m.only.size, fun hb => ?_, fun i hi => ?_⟩
  · rcases m.own b hb with e | e
    · exact hn e
    · omega
  · have hbk := m.only.block b hlt hn
    exact ⟨(World.cell?_of_block (w := w) (a := ⟨b, off + i * 2, none⟩) hbk).trans (hc i hi).1, (World.cell?_of_block (w := w) (a := ⟨b, off + i * 2 + 1, none⟩) hbk).trans (hc i hi).2⟩
theorem allGo_step {s : Int × Net} {zs : List Int} {k : Nat} (h : k < zs.length) : allGo s (zs.take (k + 1)) = andF (allGo s (zs.take k)).2 (allGo s (zs.take k)).1 (zs.getD k 0) := by
  rw [List.take_succ_eq_append_getElem h]
  unfold allGo
  rw [List.foldl_append]
  simp [List.getD, h]
theorem allHas_no {m : Nat} {zs : List Int} {k : Nat} (h : k < zs.length) (hn : hasB m (zs.getD k 0) = false) : allHas m zs = false := by
  unfold allHas
  rw [List.all_eq_false]
  refine ⟨zs[k], List.getElem_mem h, ?_⟩
  have : zs.getD k 0 = zs[k] := by simp [List.getD, h]
  rw [← this, hn]; simp
theorem allHas_yes {m : Nat} {zs : List Int} (h : ∀ j, j < zs.length → hasB m (zs.getD j 0) = true) : allHas m zs = true := by
  unfold allHas
  rw [List.all_eq_true]
  intro x hx
  obtain ⟨j, hj, rfl⟩ := List.getElem_of_mem hx
  have := h j hj
  simpa [List.getD, hj] using this
theorem allGo_len (N : Net) : ∀ (zs : List Int) (s : Int × Net), N.length ≤ s.2.length → (allGo s zs).2.length ≤ s.2.length + zs.length := by
  intro zs
  induction zs with
  | nil => intro s _; simp [allGo]
  | cons z zs ih =>
    intro s hs
    obtain ⟨h1, h2, -, -⟩ := and_len s.2 s.1 z
    have := ih (andF s.2 s.1 z) (by omega)
    have e : allGo s (z :: zs) = allGo (andF s.2 s.1 z) zs := rfl
    rw [e, List.length_cons]; omega
end Go.Proofs.Ytbpjflghkkkenaa.aig

/- The walk of the document's Copy. (Printed by XA6.py.) -/
namespace Go.Proofs.Ytbpjflghkkkenaa.aig
open Go.RowKit
open Go.Proofs.Ytbpjflghkkkenaa.mem Go.Proofs.Ytbpjflghkkkenaa.agf

/-- a list of the call's own, in none of the blocks of P -/
structure LRow (base : Nat) (P : Nat → Prop) (w : World) (v : Value) (zs : List Int) : Prop where
  row : w.ownsRow base 3 1 v zs.length (zs.map (Value.int .i64))
  off : ∀ k, v.ownBlock = some k → ¬ P k
theorem LRow.move {base : Nat} {P P' : Nat → Prop} {w w' : World} {v : Value} {zs : List Int} (h : LRow base P w v zs) (m : Moved P P' w w') : LRow base P' w' v zs := by
  refine ⟨?_, fun k hk hp => ?_⟩
  · obtain ⟨e1, e2⟩ := h.row
    refine ⟨e1, ?_⟩
    rcases e2 with e2 | ⟨g, cap, cur, rfl, h1, h2, h3⟩
    · exact .inl e2
    · exact .inr ⟨g, cap, cur, rfl, h1, (m.only.block g (Array.getElem?_eq_some_iff.1 h2).1 (h.off g rfl)).trans h2, h3⟩
  · have := (h.row.lt k hk).2
    rcases m.own k hp with e | e
    · exact h.off k hk e
    · omega
theorem infoI : (Try.prog.info? 3).map (fun i => (i.zero, i.size, i.bytes)) = some (some (.int .i64 0), 1, 8) := by kernel_rfl
theorem news1 (w : World) (x : Value) (t : TypeId) : ∀ j u, ([x] : List Value)[j]? = some u → (w.alloc (.cells #[x] t)).cell? ((⟨w.heap.size, 0, none⟩ : Addr).add j) = some u := by
  intro j u hj
  match j, hj with
  | 0, hj => simp at hj; subst hj; simp [Addr.add]
theorem one_cell (x : Int) : ∀ u ∈ ([.int .i64 x] : List Value), u.oneCell' = true := by
  intro u hu; simp at hu; subst hu; rfl
theorem Moved.grown {P P' : Nat → Prop} {w w1 w2 : World} {row : Option Nat} (h : Moved P P' w w1) (hg : w1.grownBy w2 row) (hr : ∀ k, row = some k → w.heap.size ≤ k) : Moved P P' w w2 :=
  ⟨⟨hg.os.trans h.only.os, hg.tape.trans h.only.tape, hg.output.trans h.only.output, Nat.le_trans h.only.size hg.size, fun k hk hn => by
    have hs := h.only.size
    rw [hg.block k (by omega) (fun e => by have := hr k e.symm; omega), h.only.block k hk hn]⟩, h.own⟩
theorem only_grown {w1 w2 : World} {row : Option Nat} (hg : w1.grownBy w2 row) : Only (fun k => row = some k) w1 w2 :=
  ⟨hg.os, hg.tape, hg.output, hg.size, fun k hk hn => hg.block k hk (fun e => hn e.symm)⟩
theorem map_snocI (L : List Int) (r : Int) : L.map (Value.int .i64) ++ [Value.int .i64 r] = (L ++ [r]).map (Value.int .i64) := by simp
/-- behind an append to the list -/
theorem grow_end {A B h t c : Nat} {sv sv2 lv : Value} {L : List Int} {r : Int} {M2 : Net} {w w1 w2 : World} {o : Obj} (s1 : Rs A B w1 h sv2 M2) (hm : Moved (ROwn h sv) (ROwn h sv2) w w1)
    (hl : LRow w.heap.size (ROwn h sv2) w1 lv L) (hown : w2.ownsRow w.heap.size 3 1 (.slice (some ⟨t, 0, none⟩) (L.length + 1) c) (L.length + 1) (L.map (Value.int .i64) ++ [.int .i64 r]))
    (hg : (w1.alloc o).grownBy w2 lv.ownBlock) (hat : lv.ownBlock = some t ∨ w1.heap.size ≤ t) :
    Rs A B w2 h sv2 M2 ∧ Moved (ROwn h sv) (ROwn h sv2) w w2 ∧ LRow w.heap.size (ROwn h sv2) w2 (.slice (some ⟨t, 0, none⟩) (L.length + 1) c) (L ++ [r]) := by
  have ha : Below w1.heap.size w1 (w1.alloc o) := (Below.refl _ _).alloc (Nat.le_refl _) _
  have s2 := s1.on ha
  refine ⟨s2.only (only_grown hg) (fun k hk e => hl.off k e hk), ?_, ?_, fun k hk hp => ?_⟩
  · exact (hm.grown (grown_of_below ha) (fun k hk => by cases hk)).grown hg (fun k hk => (hl.row.lt k hk).1)
  · rw [map_snocI] at hown
    rw [List.length_append, List.length_singleton]; exact hown
  · have e : k = t := by simpa [Value.ownBlock] using hk.symm
    subst e
    have := (s1.ge k hp).2
    rcases hat with e | e
    · exact hl.off k e hp
    · omega
/-- a node as it is read -/
def absN (p : Int × Int) : Nd := if p.1 < 0 then none else some (p.1.toNat, p.2.toNat)
/-- nodes of a good net -/
def GoodN (ns : List (Int × Int)) : Prop := ∀ i, i < ns.length → 0 ≤ (ns.getD i (0, 0)).1 → (ns.getD i (0, 0)).1 ≤ 2 * (i : Int) + 1 ∧ 0 ≤ (ns.getD i (0, 0)).2 ∧ (ns.getD i (0, 0)).2 ≤ 2 * (i : Int) + 1
theorem copyGo_step {s : List Int × List Int × Net} {n : Net} {k : Nat} {x : Nd} (h : n[k]? = some x) : copyGo s (n.take (k + 1)) = copyStep (copyGo s (n.take k)) x := by
  rw [take_snoc h]; unfold copyGo; rw [List.foldl_append]; rfl
theorem absN_at {ns : List (Int × Int)} {k : Nat} (h : k < ns.length) : (ns.map absN)[k]? = some (absN (ns.getD k (0, 0))) := by
  rw [List.getElem?_map, List.getElem?_eq_getElem h]; simp [List.getD, h]
theorem drop_at {zs : List Int} {k : Nat} (h : k < zs.length) : zs.drop k = zs.getD k 0 :: zs.drop (k + 1) := by
  rw [List.drop_eq_getElem_cons h]; simp [List.getD, h]
theorem copyStep_new {L : List Int} {zs : List Int} {kk : Nat} {M : Net} (h : zs.length ≤ kk) : copyStep (L, zs.drop kk, M) none = (L ++ [(inF M).1], zs.drop (kk + 1), (inF M).2) := by
  rw [List.drop_of_length_le h, List.drop_of_length_le (by omega)]; rfl
theorem copyStep_old {L : List Int} {zs : List Int} {kk : Nat} {M : Net} (h : kk < zs.length) : copyStep (L, zs.drop kk, M) none = (L ++ [zs.getD kk 0], zs.drop (kk + 1), M) := by
  rw [drop_at h]; rfl
/-- how far the literals reach that are told so far -/
def Lits (L : List Int) (m : Nat) : Prop := ∀ j, -1 ≤ L.getD j 0 ∧ L.getD j 0 ≤ 2 * (m : Int) + 1
theorem lits_more {L : List Int} {m m' : Nat} {r : Int} (h : Lits L m) (hm : m ≤ m') (hr : -1 ≤ r ∧ r ≤ 2 * (m' : Int) + 1) : Lits (L ++ [r]) m' := by
  intro j
  rcases Nat.lt_trichotomy j L.length with e | e | e
  · rw [snocI_l e]; have := h j; omega
  · rw [e, snocI_r]; exact hr
  · have : (L ++ [r]).getD j 0 = 0 := by simp only [List.getD]; rw [List.getElem?_eq_none (by simp; omega)]; rfl
    rw [this]; omega
/-- how Copy leaves things -/
def Copied (A B h : Nat) (sv : Value) (l : List Int) (M : Net) (w : World) (e : Ending) (w' : World) : Prop :=
  ∃ sv' v, e = .returned v ∧ Rs A B w' h sv' M ∧ Moved (ROwn h sv) (ROwn h sv') w w' ∧ LRow w.heap.size (ROwn h sv') w' v l
end Go.Proofs.Ytbpjflghkkkenaa.aig

/- The walks of the document's Check, Inputs and Levels. -/
namespace Go.Proofs.Ytbpjflghkkkenaa.aig
open Go.RowKit
open Go.Proofs.Ytbpjflghkkkenaa.mem Go.Proofs.Ytbpjflghkkkenaa.agf

/-- whether the i-th node is one of a good net -/
def okAt (ns : List (Int × Int)) (i : Nat) : Bool :=
  decide ((ns.getD i (0, 0)).1 < 0) || (decide ((ns.getD i (0, 0)).1 ≤ 2 * (i : Int) + 1) && decide (0 ≤ (ns.getD i (0, 0)).2) && decide ((ns.getD i (0, 0)).2 ≤ 2 * (i : Int) + 1))
theorem okAt_def (ns : List (Int × Int)) (i : Nat) : okAt ns i = (decide ((ns.getD i (0, 0)).1 < 0) || (decide ((ns.getD i (0, 0)).1 ≤ 2 * (i : Int) + 1) && decide (0 ≤ (ns.getD i (0, 0)).2) && decide ((ns.getD i (0, 0)).2 ≤ 2 * (i : Int) + 1))) := rfl
def okB (ns : List (Int × Int)) : Bool := (List.range ns.length).all (okAt ns)
theorem okB_yes {ns : List (Int × Int)} (h : ∀ i, i < ns.length → okAt ns i = true) : okB ns = true := by
  unfold okB; rw [List.all_eq_true]; intro i hi; exact h i (List.mem_range.1 hi)
theorem okB_no {ns : List (Int × Int)} {i : Nat} (hi : i < ns.length) (h : okAt ns i = false) : okB ns = false := by
  unfold okB; rw [List.all_eq_false]; exact ⟨i, List.mem_range.2 hi, by rw [h]; simp⟩
theorem okB_good {ns : List (Int × Int)} (h : okB ns = true) : GoodN ns := by
  intro i hi h0
  unfold okB at h
  rw [List.all_eq_true] at h
  have := h i (List.mem_range.2 hi)
  unfold okAt at this
  simp only [Bool.or_eq_true, Bool.and_eq_true, decide_eq_true_eq] at this
  omega
theorem good_abs {ns : List (Int × Int)} (h : GoodN ns) : agf.Good (ns.map absN) := by
  intro i a b hi
  have hl : i < ns.length := by have := (List.getElem?_eq_some_iff.1 hi).1; simpa using this
  rw [absN_at hl] at hi
  unfold absN at hi
  have hg := h i hl
  by_cases h0 : (ns.getD i (0, 0)).1 < 0
  · rw [if_pos h0] at hi; cases hi
  · rw [if_neg h0] at hi
    have e := Option.some.inj (Option.some.inj hi)
    have e1 : (ns.getD i (0, 0)).1.toNat = a := congrArg Prod.fst e
    have e2 : (ns.getD i (0, 0)).2.toNat = b := congrArg Prod.snd e
    have := hg (by omega)
    omega
def chk (ns : List (Int × Int)) : Int := if okB ns then 0 else 5
theorem KNds.form {P : Nat → Prop} {w : World} {v : Value} {ns : List (Int × Int)} (h : KNds P w v ns) : ∃ a cap, v = .slice a ns.length cap ∧ ns.length ≤ cap ∧ cap ≤ maxLen := by
  obtain ⟨a, cap, hv, h1, h2, -⟩ := h; exact ⟨a, cap, hv, h1, h2⟩
theorem KNds.at_ {P : Nat → Prop} {w : World} {a : Option Addr} {m cap : Nat} {ns : List (Int × Int)} (h : KNds P w (.slice a m cap) ns) {i : Nat} (hi : i < m) : ∃ b off, a = some ⟨b, off, none⟩ ∧ b < w.heap.size ∧
    w.cell? ⟨b, off + i * 2, none⟩ = some (.int .i64 (ns.getD i (0, 0)).1) ∧ w.cell? ⟨b, off + i * 2 + 1, none⟩ = some (.int .i64 (ns.getD i (0, 0)).2) := by
  obtain ⟨a', cap', hv, h1, h2, h3⟩ := h
  obtain ⟨rfl, rfl, rfl⟩ := Value.slice.inj hv
  obtain ⟨b, off, ha, hlt, -, hc⟩ := h3 (by omega)
  exact ⟨b, off, ha, hlt, hc i hi⟩
set_option maxHeartbeats 3200000 in
theorem refCheck_any (P : Nat → Prop) (v : Value) (ns : List (Int × Int)) (w : World) (hv : KNds P w v ns) (hn : ns.length ≤ 1000) :
    Calls Try.prog 18 #[v] w fun e w' => e = .returned (.int .i64 (chk ns)) ∧ w = w' := by
  obtain ⟨a, cap, rfl, l1, l2⟩ := hv.form
  unfold maxLen at l2
  obtain ⟨m, hm⟩ : ∃ m, m = ns.length := ⟨_, rfl⟩
  rw [← hm] at l1 hn hv ⊢
  have HV := Lib.hid hv
  have HM := Lib.hid hm
  have t0 : decide (1048576 < m) = false := by simp; omega
  clear hv hm
  go_enter Try.func18, Try.ntmps18
  go_wp2_with fail
  go_loop [3] (fun i => ∃ k : Nat, k ≤ m ∧ i = .int .i64 k ∧ Hid (∀ j, j < k → okAt ns j = true)) (fun i => m - (intOf i).toNat)
  case atStart => exact ⟨0, Nat.zero_le _, rfl, Lib.hid (fun j hj => by omega)⟩
  case round =>
    obtain ⟨k, hk, rfl, HJ⟩ := hrel
    by_cases hlt : k < m
    · obtain ⟨b, off, rfl, -, e1, e2⟩ := HV.out.at_ hlt
      have HO := Lib.hid (okAt_def ns k)
      obtain ⟨p, hp⟩ : ∃ p, p = (ns.getD k (0, 0)).1 := ⟨_, rfl⟩
      obtain ⟨q, hq⟩ : ∃ q, q = (ns.getD k (0, 0)).2 := ⟨_, rfl⟩
      rw [← hp] at e1 HO
      rw [← hq] at e2 HO
      have d1 : (k : Int) < (m : Int) := by omega
      have d2 : 0 ≤ (k : Int) := by omega
      clear hp hq
      have yes : okAt ns k = true → Hid (∀ j, j < k + 1 → okAt ns j = true) := fun h => Lib.hid (fun j hj => by
        by_cases e : j = k
        · rw [e]; exact h
        · exact HJ.out j (by omega))
      have no : okAt ns k = false → Hid (chk ns = 5) := fun h => Lib.hid (by unfold chk; rw [okB_no (by rw [← HM.out]; exact hlt) h]; rfl)
      by_cases g0 : p < 0
      · have c1 : decide (0 ≤ p) = false := by simp; omega
        have HN := yes (by rw [HO.out, decide_eq_true g0]; rfl)
        clear yes no g0
        go_wp2_with fail
        go_round
        case rel => exact ⟨k + 1, by omega, by go_num, HN⟩
        case measure => simp [intOf]; omega
      · have c1 : decide (0 ≤ p) = true := by simp; omega
        by_cases g1 : p ≤ 2 * (k : Int) + 1
        · have c2 : decide (2 * (k : Int) + 1 < p) = false := by simp; omega
          by_cases g2 : 0 ≤ q
          · have c3 : decide (q < 0) = false := by simp; omega
            by_cases g3 : q ≤ 2 * (k : Int) + 1
            · have c4 : decide (2 * (k : Int) + 1 < q) = false := by simp; omega
              have HN := yes (by rw [HO.out, decide_eq_true g1, decide_eq_true g2, decide_eq_true g3]; simp)
              clear yes no g0 g1 g2 g3
              go_wp2_with fail
              go_round
              case rel => exact ⟨k + 1, by omega, by go_num, HN⟩
              case measure => simp [intOf]; omega
            · have c4 : decide (2 * (k : Int) + 1 < q) = true := by simp; omega
              have HN := no (by rw [HO.out, decide_eq_false g0, decide_eq_false g3]; simp)
              clear yes no g0 g1 g2 g3
              go_wp2_with fail
              go_ret
              exact ⟨retI HN.out.symm, rfl⟩
          · have c3 : decide (q < 0) = true := by simp; omega
            have HN := no (by rw [HO.out, decide_eq_false g0, decide_eq_false g2]; simp)
            clear yes no g0 g1 g2
            go_wp2_with fail
            go_ret
            exact ⟨retI HN.out.symm, rfl⟩
        · have c2 : decide (2 * (k : Int) + 1 < p) = true := by simp; omega
          have HN := no (by rw [HO.out, decide_eq_false g0, decide_eq_false g1]; simp)
          clear yes no g0 g1
          go_wp2_with fail
          go_ret
          exact ⟨retI HN.out.symm, rfl⟩
    · obtain rfl : m = k := by omega
      have HN : Hid (chk ns = 0) := Lib.hid (by unfold chk; rw [okB_yes (fun i hi => HJ.out i (by rw [HM.out]; exact hi))]; rfl)
      clear hlt hk
      go_wp2_with fail
      go_ret
      exact ⟨retI HN.out.symm, rfl⟩
end Go.Proofs.Ytbpjflghkkkenaa.aig
