/- The walk of the project's Fanouts, for texts without chapter 8's other walks: a list of lists that grow; all of it is memory of its own. (Made of E5.) -/
import Derived.Test.YtoacedadfjoneaaFs
import Derived.Test.YtoacedadfjoneaaFx
import Derived.Test.YtoacedadfjoneaaEs
namespace Go.Proofs.Ytoacedadfjoneaa.aig
open Go.RowKit
open Go.Proofs.Ytoacedadfjoneaa.mem Go.Proofs.Ytoacedadfjoneaa.agf Go.Proofs.Ytoacedadfjoneaa.fns
open Go.Proofs.Ytoacedadfjoneaa.ints (Ints ints_of_owned below_drewN)

theorem own_kept {v v2 : Value} {w w1 w3 : World} {B n size : Nat} {e : TypeId} {xs : List Value} (h : w.ownsRow B e size v n xs) (hb : Below w.heap.size w w1) (hg : w1.grownBy w3 v2.ownBlock) (hne : ∀ k, v.ownBlock = some k → v2.ownBlock ≠ some k) : w3.ownsRow B e size v n xs :=
  (own_on h hb).kept hg (by
    cases hv : v.ownBlock with
    | none => exact .inl rfl
    | some k => exact .inr (fun e => hne k hv e.symm))
theorem coneIn_of {a : Int} (b : Int) {r : Bool} (h : decide (a < 0) = r) (w : World) : Calls Try.prog 51 #[.agg #[.int .i64 a, .int .i64 b]] w fun e w' => e = .returned (.bool r) ∧ Below w.heap.size w w' := by
  have HB : Hid (Below w.heap.size w (w.alloc (.cells #[.int .i64 a, .int .i64 b] 40))) := Lib.hid ((Below.refl _ _).alloc (Nat.le_refl _) _)
  go_enter Try.func51, Try.ntmps51
  go_wp2_with fail
  go_ret
  exact ⟨rfl, HB.out⟩
/-- a list of numbers in blocks that P leaves alone -/
theorem kints_of_owned {w : World} {B : Nat} {P : Nat → Prop} {v : Value} {zs : List Int} (h : w.ownsRow B 3 1 v zs.length (zs.map (Value.int .i64))) (hP : ∀ k, B ≤ k → ¬ P k) : KInts P w v zs := by
  rcases h.2 with ⟨rfl, h0⟩ | ⟨g, cap, cur, rfl, hb, hg, hn, hm, hs, ht⟩
  · exact ⟨none, 0, by rw [h0], by omega, by unfold maxLen; omega, fun hp => by omega⟩
  · refine ⟨some ⟨g, 0, none⟩, cap, rfl, hn, hm, fun hp => ⟨g, 0, rfl, (Array.getElem?_eq_some_iff.1 hg).1, hP g hb, fun i hi => ?_⟩⟩
    rw [Nat.zero_add, h.cellAt i (by omega), List.getElem?_map, List.getElem?_eq_getElem hi]
    simp [List.getD, hi]
theorem kints_ints {w : World} {P : Nat → Prop} {v : Value} {zs : List Int} (h : KInts P w v zs) : Ints w v zs := by
  obtain ⟨a, cap, hv, h1, h2, h3⟩ := h
  exact ⟨a, cap, hv, h1, h2, fun hp => by obtain ⟨b, off, ha, hlt, -, hc⟩ := h3 hp; exact ⟨b, off, ha, hlt, hc⟩⟩
theorem ints_kints {w : World} {P : Nat → Prop} {v : Value} {zs : List Int} (h : Ints w v zs) (hP : ∀ k, k < w.heap.size → ¬ P k) : KInts P w v zs := by
  obtain ⟨a, cap, hv, h1, h2, h3⟩ := h
  exact ⟨a, cap, hv, h1, h2, fun hp => by obtain ⟨b, off, ha, hlt, hc⟩ := h3 hp; exact ⟨b, off, ha, hlt, hP b hlt, hc⟩⟩
theorem KInts.weak {w : World} {P Q : Nat → Prop} {v : Value} {zs : List Int} (h : KInts P w v zs) (hQ : ∀ k, k < w.heap.size → Q k → P k) : KInts Q w v zs := by
  obtain ⟨a, cap, hv, h1, h2, h3⟩ := h
  exact ⟨a, cap, hv, h1, h2, fun hp => by obtain ⟨b, off, ha, hlt, hn, hc⟩ := h3 hp; exact ⟨b, off, ha, hlt, fun e => hn (hQ b hlt e), hc⟩⟩
theorem KNds.weak {w : World} {P Q : Nat → Prop} {v : Value} {ns : List (Int × Int)} (h : KNds P w v ns) (hQ : ∀ k, k < w.heap.size → Q k → P k) : KNds Q w v ns := by
  obtain ⟨a, cap, hv, h1, h2, h3⟩ := h
  exact ⟨a, cap, hv, h1, h2, fun hp => by obtain ⟨b, off, ha, hlt, hn, hc⟩ := h3 hp; exact ⟨b, off, ha, hlt, fun e => hn (hQ b hlt e), hc⟩⟩
theorem knds_kept {w : World} {Q : Nat → Prop} {v : Value} {ns : List (Int × Int)} (h : KNds (fun _ => False) w v ns) (hQ : ∀ k, k < w.heap.size → ¬ Q k) : KNds Q w v ns := by
  obtain ⟨a, cap, hv, h1, h2, h3⟩ := h
  exact ⟨a, cap, hv, h1, h2, fun hp => by obtain ⟨b, off, ha, hlt, hn, hc⟩ := h3 hp; exact ⟨b, off, ha, hlt, hQ b hlt, hc⟩⟩
/-- a list of lists in blocks that P leaves alone -/
def KGrid (P : Nat → Prop) (w : World) (u : Value) (LL : List (List Int)) : Prop :=
  ∃ (a : Option Addr) (cap : Nat), u = .slice a LL.length cap ∧ LL.length ≤ cap ∧ cap ≤ maxLen ∧ (0 < LL.length → ∃ b off, a = some ⟨b, off, none⟩ ∧ b < w.heap.size ∧ ¬ P b ∧ ∀ i, i < LL.length → ∃ v, w.cell? ⟨b, off + i, none⟩ = some v ∧ KInts P w v (LL.getD i []))
theorem KGrid.form {P : Nat → Prop} {w : World} {u : Value} {LL : List (List Int)} (h : KGrid P w u LL) : ∃ a cap, u = .slice a LL.length cap ∧ LL.length ≤ cap ∧ cap ≤ maxLen := by
  obtain ⟨a, cap, hv, h1, h2, -⟩ := h; exact ⟨a, cap, hv, h1, h2⟩
theorem KGrid.at_ {P : Nat → Prop} {w : World} {a : Option Addr} {m cap : Nat} {LL : List (List Int)} (h : KGrid P w (.slice a m cap) LL) {i : Nat} (hi : i < m) :
    ∃ b off v, a = some ⟨b, off, none⟩ ∧ b < w.heap.size ∧ w.cell? ⟨b, off + i, none⟩ = some v ∧ KInts P w v (LL.getD i []) := by
  obtain ⟨a', cap', hv, h1, h2, h3⟩ := h
  obtain ⟨rfl, rfl, rfl⟩ := Value.slice.inj hv
  obtain ⟨b, off, ha, hlt, -, hc⟩ := h3 (by omega)
  obtain ⟨v, hc1, hc2⟩ := hc i hi
  exact ⟨b, off, v, ha, hlt, hc1, hc2⟩
theorem KGrid.move {P P' : Nat → Prop} {w w' : World} {u : Value} {LL : List (List Int)} (h : KGrid P w u LL) (m : Moved P P' w w') : KGrid P' w' u LL := by
  obtain ⟨a, cap, hv, h1, h2, h3⟩ := h
  refine ⟨a, cap, hv, h1, h2, fun hp => ?_⟩
  obtain ⟨b, off, ha, hlt, hn, hc⟩ := h3 hp
  refine ⟨b, off, ha, Nat.lt_of_lt_of_le hlt m.only.size, fun hb => ?_, fun i hi => ?_⟩
  · rcases m.own b hb with e | e
    · exact hn e
    · omega
  · obtain ⟨v, hc1, hc2⟩ := hc i hi
    exact ⟨v, (World.cell?_of_block (a := ⟨b, off + i, none⟩) (m.only.block b hlt hn)).trans hc1, hc2.move m⟩
theorem KGrid.weak {w : World} {P Q : Nat → Prop} {u : Value} {LL : List (List Int)} (h : KGrid P w u LL) (hQ : ∀ k, k < w.heap.size → Q k → P k) : KGrid Q w u LL := by
  obtain ⟨a, cap, hv, h1, h2, h3⟩ := h
  exact ⟨a, cap, hv, h1, h2, fun hp => by
    obtain ⟨b, off, ha, hlt, hn, hc⟩ := h3 hp
    exact ⟨b, off, ha, hlt, fun e => hn (hQ b hlt e), fun i hi => by obtain ⟨v, hc1, hc2⟩ := hc i hi; exact ⟨v, hc1, hc2.weak hQ⟩⟩⟩
theorem infoLI : (Try.prog.info? 23).map (fun i => (i.zero, i.size, i.bytes)) = some (some (.slice none 0 0), 1, 24) := by kernel_rfl
/-- a list of lists of one's own: the lists' values in block G, their rows in blocks from B on, apart from one another -/
structure Gr (A B : Nat) (w : World) (G q : Nat) (vs : List Value) (rows : Nat → List Int) : Prop where
  top : w.ownsRow A 23 1 (.slice (some ⟨G, 0, none⟩) q q) q vs
  row : ∀ (i : Nat) (v : Value), vs[i]? = some v → w.ownsRow B 3 1 v (rows i).length ((rows i).map (Value.int .i64))
  ap : ∀ (i j : Nat) (v u : Value) (k : Nat), vs[i]? = some v → vs[j]? = some u → i ≠ j → v.ownBlock = some k → u.ownBlock ≠ some k
  lay : A ≤ G ∧ G < B
  room : B ≤ w.heap.size
section
variable {A B : Nat} {w w' : World} {G q : Nat} {vs : List Value} {rows : Nat → List Int}
theorem Gr.len (s : Gr A B w G q vs rows) : vs.length = q := by have := s.top.1; omega
theorem Gr.at_ (s : Gr A B w G q vs rows) {i : Nat} (hi : i < q) : ∃ v, vs[i]? = some v := ⟨_, List.getElem?_eq_getElem (by rw [s.len]; exact hi)⟩
theorem Gr.cell (s : Gr A B w G q vs rows) {i : Nat} {v : Value} (h : vs[i]? = some v) : w.cell? ⟨G, i, none⟩ = some v := by
  have hi := (List.getElem?_eq_some_iff.1 h).1
  rw [s.len] at hi
  rw [s.top.cellAt i (by omega)]; exact h
theorem Gr.on (s : Gr A B w G q vs rows) (hb : Below w.heap.size w w') : Gr A B w' G q vs rows :=
  ⟨own_on s.top hb, fun i v h => own_on (s.row i v h) hb, s.ap, s.lay, Nat.le_trans s.room hb.size⟩
/-- behind an append to one of them, stored back -/
theorem Gr.add {w3 : World} {o : Obj} {i t c : Nat} {v : Value} {r : Int} (s : Gr A B w G q vs rows) (hv : vs[i]? = some v)
    (hown : w3.ownsRow B 3 1 (.slice (some ⟨t, 0, none⟩) ((rows i).length + 1) c) ((rows i).length + 1) ((rows i).map (Value.int .i64) ++ [.int .i64 r])) (hg : (w.alloc o).grownBy w3 v.ownBlock) (hat : v.ownBlock = some t ∨ w.heap.size ≤ t)
    (rows' : Nat → List Int) (h1 : rows' i = rows i ++ [r]) (h2 : ∀ j, j ≠ i → rows' j = rows j) :
    Gr A B (w3.setCell ⟨G, i, none⟩ (.slice (some ⟨t, 0, none⟩) ((rows i).length + 1) c)) G q (vs.set i (.slice (some ⟨t, 0, none⟩) ((rows i).length + 1) c)) rows' ∧ Below A w (w3.setCell ⟨G, i, none⟩ (.slice (some ⟨t, 0, none⟩) ((rows i).length + 1) c)) := by
  have ha : Below w.heap.size w (w.alloc o) := (Below.refl _ _).alloc (Nat.le_refl _) _
  obtain ⟨l1, l2⟩ := s.lay
  have hi := (List.getElem?_eq_some_iff.1 hv).1
  have l3 := s.room
  have l4 : w.heap.size ≤ w3.heap.size := Nat.le_trans ha.size hg.size
  have htop := own_kept s.top ha hg (fun k hk e => by
    have e1 : G = k := by simpa [Value.ownBlock] using hk
    have := ((s.row i v hv).lt k e).1
    omega)
  have hb : Below A w w3 := ((Below.refl A w).alloc (by omega) o).grown hg (by simp; omega) (fun k hk => by have := ((s.row i v hv).lt k hk).1; omega)
  refine ⟨⟨(htop.stored i _).1, fun j u hj => ?_, fun j l u1 u2 k hj hl hne hk => ?_, s.lay, by simp; omega⟩, hb.setCell (p := ⟨G, i, none⟩) l1 _⟩
  · rw [List.getElem?_set] at hj
    by_cases e : i = j
    · subst e
      rw [if_pos rfl, if_pos hi] at hj
      obtain rfl := Option.some.inj hj
      rw [h1]
      have := ownsRow_setCell_below hown (a := ⟨G, i, none⟩) l2 (.slice (some ⟨t, 0, none⟩) ((rows i).length + 1) c)
      rw [map_snocI] at this
      rw [List.length_append, List.length_singleton]; exact this
    · rw [if_neg e] at hj
      rw [h2 j (fun h => e h.symm)]
      exact ownsRow_setCell_below (own_kept (s.row j u hj) ha hg (fun k hk e2 => s.ap i j v u k hv hj e e2 hk)) (a := ⟨G, i, none⟩) l2 _
  · rw [List.getElem?_set] at hj hl
    by_cases e : i = j
    · subst e
      rw [if_pos rfl, if_pos hi] at hj
      obtain rfl := Option.some.inj hj
      rw [if_neg hne] at hl
      have e1 : t = k := by simpa [Value.ownBlock] using hk
      subst e1
      intro e2
      rcases hat with h | h
      · exact s.ap i l v u2 t hv hl hne h e2
      · have := ((s.row l u2 hl).lt t e2).2; omega
    · rw [if_neg e] at hj
      by_cases e3 : i = l
      · subst e3
        rw [if_pos rfl, if_pos hi] at hl
        obtain rfl := Option.some.inj hl
        intro e2
        have e1 : t = k := by simpa [Value.ownBlock] using e2
        subst e1
        rcases hat with h | h
        · exact s.ap i j v u1 t hv hj e h hk
        · have := ((s.row j u1 hj).lt t hk).2; omega
      · rw [if_neg e3] at hl
        exact s.ap j l u1 u2 k hj hl hne hk
/-- the cell of one of them behind an append to it -/
theorem Gr.after {w3 : World} {o : Obj} {i : Nat} {v : Value} (s : Gr A B w G q vs rows) (hv : vs[i]? = some v) (hg : (w.alloc o).grownBy w3 v.ownBlock) :
    w3.cell? ⟨G, i, none⟩ = some v ∧ w3.frozen? ⟨G, i, none⟩ = false := by
  have ha : Below w.heap.size w (w.alloc o) := (Below.refl _ _).alloc (Nat.le_refl _) _
  have htop := own_kept s.top ha hg (fun k hk e => by
    have e1 : G = k := by simpa [Value.ownBlock] using hk
    have := ((s.row i v hv).lt k e).1
    have := s.lay
    omega)
  have hi := (List.getElem?_eq_some_iff.1 hv).1
  rw [s.len] at hi
  exact ⟨by rw [htop.cellAt i (by omega)]; exact hv, htop.frozenAt i⟩
theorem Gr.kgrid (s : Gr A B w G q vs rows) (LL : List (List Int)) (hl : LL.length = q) (h : ∀ i, i < q → LL.getD i [] = rows i) (hq : q ≤ 2000) : KGrid (fun k => k < A) w (.slice (some ⟨G, 0, none⟩) q q) LL := by
  have hlt := s.top.lt G rfl
  obtain ⟨l1, l2⟩ := s.lay
  refine ⟨some ⟨G, 0, none⟩, q, by rw [hl], by omega, by unfold maxLen; omega, fun hp => ⟨G, 0, rfl, hlt.2, by omega, fun i hi => ?_⟩⟩
  obtain ⟨v, hv⟩ := s.at_ (i := i) (by omega)
  exact ⟨v, by rw [Nat.zero_add]; exact s.cell hv, by rw [h i (by omega)]; exact kints_of_owned (s.row i v hv) (fun k hk => by omega)⟩
end
theorem Var_q {l : Nat} (h1 : l ≤ 33554433) (w : World) : Calls Try.prog 39 #[.int .i64 (l : Int)] w fun e w' => e = .returned (.int .i64 ((l / 2 : Nat) : Int)) ∧ w' = w := by
  have h := lits.Var_any (l : Int) w
  rw [var_nat h1] at h
  exact h.mono fun _ _ ⟨h1, h2⟩ => ⟨h1, h2.symm⟩
/-- the gates of a variable, among the first k nodes -/
def fanR (ns : List (Int × Int)) (k : Nat) (i : Nat) : List Int := selTo (fanB ns i) k
theorem fanR_len (ns : List (Int × Int)) (k i : Nat) : (fanR ns k i).length ≤ k := sel_len _ _
theorem fanR_yes {ns : List (Int × Int)} {k i : Nat} (h : fanB ns i k = true) : fanR ns (k + 1) i = fanR ns k i ++ [(k : Int) + 1] := sel_yes h
theorem fanR_no {ns : List (Int × Int)} {k i : Nat} (h : fanB ns i k = false) : fanR ns (k + 1) i = fanR ns k i := sel_no h
theorem fan_gate {ns : List (Int × Int)} {k i x y : Nat} (h : ns.getD k (0, 0) = ((x : Int), (y : Int))) : fanB ns i k = (decide (x / 2 = i) || decide (y / 2 = i)) := by
  rw [fanB_def, h]; simp
theorem fan_input {ns : List (Int × Int)} {k i : Nat} (h : (ns.getD k (0, 0)).1 < 0) : fanB ns i k = false := by
  rw [fanB_def, decide_eq_false (by omega)]; rfl
/-- the gates of each variable -/
def fanLL (ns : List (Int × Int)) : List (List Int) := (List.range (ns.length + 1)).map fun x => fanL ns x
theorem fanLL_len (ns : List (Int × Int)) : (fanLL ns).length = ns.length + 1 := by simp [fanLL]
theorem fanLL_at {ns : List (Int × Int)} {k : Nat} (h : k < ns.length + 1) : (fanLL ns).getD k [] = fanR ns ns.length k := by unfold fanLL fanR fanL; simp [List.getD, h]
/-- between the two appends of a gate -/
def fanM (ns : List (Int × Int)) (k a : Nat) (i : Nat) : List Int := if i = a then fanR ns k i ++ [(k : Int) + 1] else fanR ns k i
theorem fanM_len (ns : List (Int × Int)) (k a i : Nat) : (fanM ns k a i).length ≤ k + 1 := by
  have := fanR_len ns k i
  unfold fanM; split
  · simp; omega
  · omega
set_option maxRecDepth 100000 in
set_option maxHeartbeats 3200000 in
theorem fanouts_any (v : Value) (ns : List (Int × Int)) (w : World) (hv : KNds (fun _ => False) w v ns) (hg : GoodN ns) (hn : ns.length ≤ 1000) :
    Calls Try.prog 43 #[v] w fun e w' => ∃ u, e = .returned u ∧ KGrid (fun k => k < w.heap.size) w' u (fanLL ns) ∧ Below w.heap.size w w' := by
  obtain ⟨i0, hi, hz0, hz1, hz2⟩ := info_parts infoI
  obtain ⟨i1, hj, hy0, hy1, hy2⟩ := info_parts infoLI
  have HC := Lib.hid (check_any _ v ns w hv (by omega))
  rw [good_chk hg] at HC
  have HLL : Hid (∀ k, k < ns.length + 1 → (fanLL ns).getD k [] = fanR ns ns.length k) := Lib.hid (fun k h => fanLL_at h)
  have HLN : Hid ((fanLL ns).length = ns.length + 1) := Lib.hid (fanLL_len ns)
  obtain ⟨LL, hLL⟩ : ∃ LL, LL = fanLL ns := ⟨_, rfl⟩
  rw [← hLL] at HLL HLN ⊢
  obtain ⟨a, cap, rfl, l1, l2⟩ := hv.form
  unfold maxLen at l2
  obtain ⟨m, hm⟩ : ∃ m, m = ns.length := ⟨_, rfl⟩
  rw [← hm] at l1 hn hv HC HLL HLN
  rw [← hm]
  have HV := Lib.hid hv
  have HM := Lib.hid hm
  have HG := Lib.hid hg
  obtain ⟨q0, hq0⟩ : ∃ q0, q0 = m + 1 := ⟨_, rfl⟩
  rw [← hq0] at HLL HLN
  have HQM := Lib.hid hq0
  have q1 : (m : Int) + 1 = (q0 : Int) := by omega
  have q2 : q0 ≤ 1001 := by omega
  have HQ1 := Lib.hid q1
  clear hv hm hg hq0 q1 hLL
  go_enter Try.func43, Try.ntmps43
  go_wp2_with fail
  go_at_call 23; refine HC.out.mono ?_; rintro e w1 ⟨rfl, hb1⟩
  have HB1 := Lib.hid hb1
  have hz := hb1.size
  clear hb1
  go_wp2_with (refine wpList_make_full _ rfl (.tmp 13) (.tmp 13) 58 rfl w.heap.size 23 i1 (.slice none 0 0) 1 Try.underlying58 hj hy0 hy1 .i64 .i64 _ _ q0 rfl rfl HQ1.out HQ1.out (by rw [hy2]; omega) (by unfold maxLen; omega) hz ?_)
  intro w2 hown hgrow
  obtain ⟨G, hR⟩ : ∃ G, G = w1.heap.size := ⟨_, rfl⟩
  have HB2 : Hid (Below w.heap.size w w2) := Lib.hid (HB1.out.grown hgrow hz (fun k hk => by cases hk))
  have hmade : (madeCells #[Value.slice none 0 0] q0).toList = List.replicate q0 (Value.slice none 0 0) := toList_madeCells_one _ _
  rw [hmade, ← hR] at hown
  obtain ⟨B, hB⟩ : ∃ B, B = w2.heap.size := ⟨_, rfl⟩
  have hG0 : w.heap.size ≤ G := by rw [hR]; exact hz
  have HG2 : Hid (Gr w.heap.size B w2 G q0 (List.replicate q0 (Value.slice none 0 0)) (fanR ns 0)) := Lib.hid (by
    have hrep : ∀ (i : Nat) (v : Value), (List.replicate q0 (Value.slice none 0 0))[i]? = some v → v = Value.slice none 0 0 := fun i v h => by
      rw [List.getElem?_replicate] at h
      split at h
      · exact (Option.some.inj h).symm
      · cases h
    refine ⟨hown, fun i v h => ?_, fun i j v u k h1 h2 hne hk => ?_, ⟨hG0, by rw [hB]; exact (hown.lt G rfl).2⟩, by rw [hB]; exact Nat.le_refl _⟩
    · rw [hrep i v h]; exact World.ownsRow_nil _ _ _ _
    · rw [hrep i v h1] at hk; simp [Value.ownBlock] at hk)
  rw [← hR]
  clear hown hgrow hz hR hmade hB hG0 HB1 HC
  go_wp2_with fail
  go_loopw [17] (fun i wr => ∃ (k : Nat) (vs : List Value), k ≤ m ∧ i = .int .i64 k ∧ Hid (Gr w.heap.size B wr G q0 vs (fanR ns k) ∧ Below w.heap.size w wr)) (fun i _ => m - (intOf i).toNat)
  case atStart => exact ⟨0, _, Nat.zero_le _, rfl, Lib.hid ⟨HG2.out, HB2.out⟩⟩
  case round =>
    clear HG2 HB2
    obtain ⟨k, vs, hk, rfl, HW⟩ := hrel
    obtain ⟨wo, rfl⟩ : ∃ wo : World, wo = wr := ⟨_, rfl⟩
    by_cases hlt : k < m
    · obtain ⟨b, off, rfl, -, e1, e2⟩ := (HV.out.on HW.out.2).at_ hlt
      have hgg := HG.out k (by rw [← HM.out]; exact hlt)
      have HFI := Lib.hid (fun i h => fan_input (ns := ns) (k := k) (i := i) h)
      have HFG := Lib.hid (fun i x y h => fan_gate (ns := ns) (k := k) (i := i) (x := x) (y := y) h)
      obtain ⟨pq, hpq⟩ : ∃ pq, pq = ns.getD k (0, 0) := ⟨_, rfl⟩
      rw [← hpq] at e1 e2 hgg HFI HFG
      obtain ⟨p, q⟩ := pq
      simp only at e1 e2 hgg HFI
      have hwz := HW.out.2.size
      have d1 : (k : Int) < (m : Int) := by omega
      have d2 : 0 ≤ (k : Int) := by omega
      clear hpq
      go_upto_region 7 with fail
      obtain ⟨W1, hW1⟩ : ∃ W1, W1 = wo.alloc (.cells #[.int .i64 p, .int .i64 q] 40) := ⟨_, rfl⟩
      obtain ⟨X, hX⟩ : ∃ X, X = wo.heap.size := ⟨_, rfl⟩
      have x0 : W1.cell? ⟨X, 0, none⟩ = some (.int .i64 p) := by rw [hW1, hX]; exact (box_at _ _ _ _).1
      have x1 : W1.cell? ⟨X, 1, none⟩ = some (.int .i64 q) := by rw [hW1, hX]; exact (box_at _ _ _ _).2
      have hXl : X < W1.heap.size := by rw [hW1, hX]; simp
      have HBX : Hid (Below wo.heap.size wo W1) := Lib.hid (by rw [hW1]; exact box_below wo p q _)
      rw [← hX, ← hW1]
      clear hX hW1 e1 e2
      by_cases g0 : p < 0
      · have HP : Hid (decide (p < 0) = true) := Lib.hid (decide_eq_true g0)
        have HN : Hid (fanR ns k = fanR ns (k + 1)) := Lib.hid (funext fun i => (fanR_no (HFI.out i g0)).symm)
        clear g0 hgg
        go_wp2_with fail
        go_at_call 51; refine (coneIn_of q HP.out _).mono ?_; rintro e w3 ⟨rfl, hb⟩
        have HE : Hid (Gr w.heap.size B w3 G q0 vs (fanR ns (k + 1)) ∧ Below w.heap.size w w3) := Lib.hid (by
          have hb3 := HBX.out.trans (hb.mono HBX.out.size)
          rw [← HN.out]; exact ⟨HW.out.1.on hb3, HW.out.2.trans (hb3.mono hwz)⟩)
        clear hb x0 x1 hXl
        go_wp2_with fail
        go_roundw
        case rel => exact ⟨k + 1, vs, by omega, by go_num, HE⟩
        case measure => simp [intOf]; omega
      · have HP : Hid (decide (p < 0) = false) := Lib.hid (decide_eq_false g0)
        obtain ⟨g1, g2, g3⟩ := hgg (by omega)
        obtain ⟨x, rfl⟩ := Int.eq_ofNat_of_zero_le (show 0 ≤ p by omega)
        obtain ⟨y, rfl⟩ := Int.eq_ofNat_of_zero_le g2
        have hx2 : x ≤ 2001 := by omega
        have hy2' : y ≤ 2001 := by omega
        have b5 : x / 2 < q0 := by have := HQM.out; omega
        have b6 : y / 2 < q0 := by have := HQM.out; omega
        replace HFG := Lib.hid (fun i => HFG.out i x y rfl)
        clear g0 hgg g1 g2 g3 HFI
        go_wp2_with fail
        go_at_call 51; refine (coneIn_of (y : Int) HP.out _).mono ?_; rintro e w3 ⟨rfl, hb⟩
        have hb3 := HBX.out.trans (hb.mono HBX.out.size)
        have HG3 := Lib.hid (And.intro (HW.out.1.on hb3) (HW.out.2.trans (hb3.mono hwz)))
        have y0 := (hb.cell (p := ⟨X, 0, none⟩) hXl).trans x0
        have y1 := (hb.cell (p := ⟨X, 1, none⟩) hXl).trans x1
        clear hb hb3 x0 x1 hXl
        go_upto_region 8 with fail
        go_quiet ((first | (go_at_call_of 39 (Value.int IntKind.i64 (x : Int)); exact Calls.quiet_of_same (Var_q (l := x) (by omega) _)) | (go_at_call_of 39 (Value.int IntKind.i64 (y : Int)); exact Calls.quiet_of_same (Var_q (l := y) (by omega) _))))
        obtain ⟨W4, hW4⟩ : ∃ W4, W4 = w3.drewN nq := ⟨_, rfl⟩
        have HG4 : Hid (Gr w.heap.size B W4 G q0 vs (fanR ns k) ∧ Below w.heap.size w W4) := Lib.hid (by
          rw [hW4]; exact ⟨HG3.out.1.on (below_drewN (Below.refl _ _) _), below_drewN HG3.out.2 _⟩)
        rw [← hW4]
        clear hW4 y0 y1
        obtain ⟨xa, hxa⟩ : ∃ xa, xa = x / 2 := ⟨_, rfl⟩
        obtain ⟨yb, hyb⟩ : ∃ yb, yb = y / 2 := ⟨_, rfl⟩
        rw [← hxa] at b5 HFG ⊢
        rw [← hyb] at b6 HFG ⊢
        clear hxa hyb
        obtain ⟨av, hav⟩ := Gr.at_ HG4.out.1 (i := xa) (by omega)
        have HAV := Lib.hid hav
        have z1 := (Gr.cell HG4.out.1 hav)
        have f1 := HG4.out.1.top.frozenAt (xa)
        have HRW := Lib.hid (HG4.out.1.row _ _ hav)
        have HROW := Lib.hid (own_on HRW.out ((Below.refl _ W4).alloc (Nat.le_refl _) (.cells #[.int .i64 ((k : Int) + 1)] 3)))
        have hBz := HG4.out.1.room
        obtain ⟨rl, hrl⟩ : ∃ rl, rl = fanR ns k (xa) := ⟨_, rfl⟩
        rw [← hrl] at HRW HROW
        have HRL := Lib.hid hrl
        have hrlen : rl.length ≤ 1001 := by rw [HRL.out]; exact Nat.le_trans (fanR_len ns k xa) (by omega)
        clear hav hrl
        go_wp2_with (at_builtin; refine wpList_append_lies _ rfl (.tmp 35) (.tmp 38) 23 rfl B 3 i0 (.int .i64 0) 1 8 Try.underlying23 hi hz0 hz1 hz2 rfl (by decide) av rl.length (rl.map (Value.int .i64)) rfl HROW.out ⟨W4.heap.size, 0, none⟩ 1 1 [.int .i64 ((k : Int) + 1)] rfl rfl (news1 _ _ _) (one_cell _) (by omega) (by unfold maxLen; omega) (by omega) (by simp; omega) _ rfl ?_)
        intro t1 c1 w5 hown hgrow hat _
        rw [HRL.out] at hown
        have HG5 : Hid (Gr w.heap.size B (w5.setCell ⟨G, xa, none⟩ (.slice (some ⟨t1, 0, none⟩) (rl.length + 1) c1)) G q0 (vs.set xa (.slice (some ⟨t1, 0, none⟩) (rl.length + 1) c1)) (fanM ns k xa) ∧ Below w.heap.size w (w5.setCell ⟨G, xa, none⟩ (.slice (some ⟨t1, 0, none⟩) (rl.length + 1) c1))) := Lib.hid (by
          obtain ⟨g1, g2⟩ := HG4.out.1.add HAV.out hown hgrow (hat.imp id (fun e => by omega)) (fanM ns k xa) (by unfold fanM; rw [if_pos rfl]) (fun j hj => by unfold fanM; rw [if_neg hj])
          rw [← HRL.out] at g1 g2
          exact ⟨g1, HG4.out.2.trans g2⟩)
        obtain ⟨z1, f1⟩ := HG4.out.1.after HAV.out hgrow
        clear hown hgrow hat
        go_upto_region 10 with fail
        obtain ⟨W6, hW6⟩ : ∃ W6, W6 = w5.setCell ⟨G, xa, none⟩ (.slice (some ⟨t1, 0, none⟩) (rl.length + 1) c1) := ⟨_, rfl⟩
        rw [← hW6] at HG5 ⊢
        clear hW6 z1 f1 HRW HROW HAV hBz hrlen
        by_cases hab : yb = xa
        · have c3 : ((yb : Int) != (xa : Int)) = false := by simp; omega
          have c3' : (yb != xa) = false := by simp; omega
          have HE : Hid (Gr w.heap.size B W6 G q0 (vs.set xa (.slice (some ⟨t1, 0, none⟩) (rl.length + 1) c1)) (fanR ns (k + 1)) ∧ Below w.heap.size w W6) := Lib.hid (by
            have e : fanM ns k xa = fanR ns (k + 1) := funext fun i => by
              have hf := HFG.out i
              unfold fanM
              by_cases h : i = xa
              · rw [if_pos h, fanR_yes (by rw [hf, decide_eq_true h.symm]; rfl)]
              · rw [if_neg h, fanR_no (by rw [hf, decide_eq_false (fun e => h e.symm), decide_eq_false (fun e => h (by omega))]; rfl)]
            rw [← e]; exact HG5.out)
          clear hab
          go_wp2_with fail
          go_roundw
          case rel => exact ⟨k + 1, _, by omega, by go_num, HE⟩
          case measure => simp [intOf]; omega
        · have c3 : ((yb : Int) != (xa : Int)) = true := by simp; omega
          have c3' : (yb != xa) = true := by simp; omega
          have HFE : Hid (∀ i, fanR ns (k + 1) i = if i = yb then fanM ns k xa i ++ [(k : Int) + 1] else fanM ns k xa i) := Lib.hid (fun i => by
            have hf := HFG.out i
            unfold fanM
            by_cases h : i = yb
            · rw [if_pos h, if_neg (fun e => hab (by omega)), fanR_yes (by rw [hf, decide_eq_true h.symm]; simp)]
            · rw [if_neg h]
              by_cases h2 : i = xa
              · rw [if_pos h2, fanR_yes (by rw [hf, decide_eq_true h2.symm]; rfl)]
              · rw [if_neg h2, fanR_no (by rw [hf, decide_eq_false (fun e => h2 e.symm), decide_eq_false (fun e => h e.symm)]; rfl)])
          obtain ⟨vs2, hvs2⟩ : ∃ vs2, vs2 = vs.set xa (.slice (some ⟨t1, 0, none⟩) (rl.length + 1) c1) := ⟨_, rfl⟩
          rw [← hvs2] at HG5
          clear hab hvs2 HRL
          obtain ⟨av, hav⟩ := Gr.at_ HG5.out.1 (i := yb) (by omega)
          have HAV := Lib.hid hav
          have z1 := (Gr.cell HG5.out.1 hav)
          have f1 := HG5.out.1.top.frozenAt (yb)
          have HRW := Lib.hid (HG5.out.1.row _ _ hav)
          have HROW := Lib.hid (own_on HRW.out ((Below.refl _ W6).alloc (Nat.le_refl _) (.cells #[.int .i64 ((k : Int) + 1)] 3)))
          have hBz := HG5.out.1.room
          obtain ⟨rl2, hrl2⟩ : ∃ rl2, rl2 = fanM ns k xa (yb) := ⟨_, rfl⟩
          rw [← hrl2] at HRW HROW
          have HRL2 := Lib.hid hrl2
          have hrlen : rl2.length ≤ 1001 := by rw [HRL2.out]; exact Nat.le_trans (fanM_len ns k xa yb) (by omega)
          clear hav hrl2
          go_wp2_with (at_builtin; refine wpList_append_lies _ rfl (.tmp 49) (.tmp 52) 23 rfl B 3 i0 (.int .i64 0) 1 8 Try.underlying23 hi hz0 hz1 hz2 rfl (by decide) av rl2.length (rl2.map (Value.int .i64)) rfl HROW.out ⟨W6.heap.size, 0, none⟩ 1 1 [.int .i64 ((k : Int) + 1)] rfl rfl (news1 _ _ _) (one_cell _) (by omega) (by unfold maxLen; omega) (by omega) (by simp; omega) _ rfl ?_)
          intro t2 c2 w7 hown hgrow hat _
          rw [HRL2.out] at hown
          have HG7 : Hid (Gr w.heap.size B (w7.setCell ⟨G, yb, none⟩ (.slice (some ⟨t2, 0, none⟩) (rl2.length + 1) c2)) G q0 (vs2.set yb (.slice (some ⟨t2, 0, none⟩) (rl2.length + 1) c2)) (fanR ns (k + 1)) ∧ Below w.heap.size w (w7.setCell ⟨G, yb, none⟩ (.slice (some ⟨t2, 0, none⟩) (rl2.length + 1) c2))) := Lib.hid (by
            obtain ⟨g1, g2⟩ := HG5.out.1.add HAV.out hown hgrow (hat.imp id (fun e => by omega)) (fanR ns (k + 1)) (by rw [HFE.out, if_pos rfl]) (fun j hj => by rw [HFE.out, if_neg hj])
            rw [← HRL2.out] at g1 g2
            exact ⟨g1, HG5.out.2.trans g2⟩)
          obtain ⟨z1, f1⟩ := HG5.out.1.after HAV.out hgrow
          clear hown hgrow hat
          go_wp2_with fail
          go_roundw
          case rel => exact ⟨k + 1, _, by omega, by go_num, HG7⟩
          case measure => simp [intOf]; omega
    · obtain rfl : m = k := by omega
      have HE : Hid (KGrid (fun k => k < w.heap.size) wo (.slice (some ⟨G, 0, none⟩) q0 q0) LL ∧ Below w.heap.size w wo) := Lib.hid ⟨HW.out.1.kgrid LL HLN.out (fun i h => by rw [HLL.out i h]) (by omega), HW.out.2⟩
      clear hlt hk
      go_wp2_with fail
      go_ret
      exact ⟨_, rfl, HE.out⟩
end Go.Proofs.Ytoacedadfjoneaa.aig
