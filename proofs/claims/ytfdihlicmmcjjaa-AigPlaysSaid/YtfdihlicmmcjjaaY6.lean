/- The walk of the project's Copy. -/
import Derived.Test.YtfdihlicmmcjjaaY5
namespace Go.Proofs.Ytfdihlicmmcjjaa.aig
open Go.RowKit
open Go.Proofs.Ytfdihlicmmcjjaa.mem Go.Proofs.Ytfdihlicmmcjjaa.agf Go.Proofs.Ytfdihlicmmcjjaa.fns

/-- 'make([]int, 1, n)': one element, and room for more -/
theorem wpList_make_one (w : World) {ops : Array Oper} {rest : List Oper} {o : Oper} {a : Act} {Q : Exit → Act → World → Prop} (hg : o.guard = none) (l c : Operand) (hop : o.op = Op.makeSlice 27 l c)
    (base n : Nat) (C : Int) (hl : a.eval l = .int .i64 1) (hc : a.eval c = .int .i64 C) (hC : C = (n : Int)) (h1 : 1 ≤ n) (hn : n ≤ 2000) (hb : base ≤ w.heap.size)
    (hK : ∀ w', w'.ownsRow base 3 1 (.slice (some ⟨w.heap.size, 0, none⟩) 1 n) 1 [.int .i64 0] → w.grownBy w' none → wpList Try.prog ops Q rest (a.put o.dst (.slice (some ⟨w.heap.size, 0, none⟩) 1 n)) w') :
    wpList Try.prog ops Q (o :: rest) a w := by
  obtain ⟨i0, hi, hz0, hz1, hz2⟩ := info_parts infoI
  refine wpList_plain hg fun K hK' => ?_
  have hr := run_make (P := Try.prog) w 27 3 i0 (.int .i64 0) Try.underlying27 hi hz0 .i64 .i64 1 (n : Int) (by omega) (by omega) (by rw [hz2]; omega) (by omega)
  rw [hz1, Nat.mul_one, Int.toNat_natCast] at hr
  subst hC
  unfold Oper.wp
  simp [execOp, hop, hl, hc, hr, Result.andThen]
  refine hK' _ _ (hK _ ⟨rfl, .inr ⟨w.heap.size, n, madeCells (Value.int IntKind.i64 0).cells n, rfl, hb, ?_, h1, by unfold maxLen; omega, ?_, ?_⟩⟩ (World.grownBy_alloc w _ none))
  · show (w.heap.push _)[w.heap.size]? = _
    rw [Array.getElem?_push, if_pos rfl]
  · rw [size_madeCells, Nat.mul_one]
  · obtain ⟨k, rfl⟩ : ∃ k, n = k + 1 := ⟨n - 1, by omega⟩
    rw [show (Value.int IntKind.i64 0).cells = #[Value.int IntKind.i64 0] from rfl, made_pad]
    simp [padI]
theorem Neg_of {l : Int} {b : Bool} (h : litNeg l = b) (w : World) : Calls Try.prog 55 #[.int .i64 l] w fun e w' => e = .returned (.bool b) ∧ w = w' := by
  have := lits.Neg_any l w; rw [h] at this; exact this
theorem not_good {l : Int} (h0 : 0 ≤ l) (h1 : l ≤ 33554433) : litNot l = nt l := by
  have hg := good_yes h0 h1
  unfold nt
  rw [if_neg (by omega)]
  by_cases h2 : l % 2 = 1
  · rw [if_pos h2, not_odd hg h2]
  · rw [if_neg h2, not_even hg (by omega)]
/-- how far the literals reach that are told so far -/
def Lit0 (L : List Int) (m : Nat) : Prop := ∀ j, 0 ≤ L.getD j 0 ∧ L.getD j 0 ≤ 2 * (m : Int) + 1
theorem lit0_more {L : List Int} {m m' : Nat} {r : Int} (h : Lit0 L m) (hm : m ≤ m') (hr : 0 ≤ r ∧ r ≤ 2 * (m' : Int) + 1) : Lit0 (L ++ [r]) m' := by
  intro j
  rcases Nat.lt_trichotomy j L.length with e | e | e
  · rw [snocI_l e]; have := h j; omega
  · rw [e, snocI_r]; exact hr
  · have : (L ++ [r]).getD j 0 = 0 := by simp only [List.getD]; rw [List.getElem?_eq_none (by simp; omega)]; rfl
    rw [this]; omega
theorem litAt_bd {L : List Int} {m : Nat} (h : Lit0 L m) (x : Nat) : hasB m (litAt L x) = true := by
  unfold litAt
  have := h (x / 2)
  split
  · rw [nt_has, has_iff]; exact this
  · rw [has_iff]; exact this
/-- what a net's literal is, by the literals told so far -/
theorem follow_any (base t c : Nat) (L : List Int) (x : Nat) (w : World) (hrow : w.ownsRow base 3 1 (.slice (some ⟨t, 0, none⟩) L.length c) L.length (L.map (Value.int .i64))) (hx : x / 2 < L.length) (hl : L.length ≤ 1001)
    (hlit : 0 ≤ L.getD (x / 2) 0 ∧ L.getD (x / 2) 0 ≤ 4000000) :
    Calls Try.prog 46 #[.slice (some ⟨t, 0, none⟩) L.length c, .int .i64 (x : Int)] w fun e w' => e = .returned (.int .i64 (litAt L x)) ∧ w' = w := by
  have x1 := row_cell hrow hx
  obtain ⟨u1, u2⟩ := hlit
  have hx2 : x ≤ 2003 := by omega
  have hg : goodB (x : Int) = true := good_yes (by omega) (by omega)
  have b3 : (x : Int) / 2 < (L.length : Int) := by omega
  have b4 : 0 ≤ (x : Int) / 2 := by omega
  have HL1 : Hid (x % 2 = 1 → litAt L x = nt (L.getD (x / 2) 0)) := Lib.hid (fun e => by unfold litAt; rw [if_pos e])
  have HL2 : Hid (¬ x % 2 = 1 → litAt L x = L.getD (x / 2) 0) := Lib.hid (fun e => by unfold litAt; rw [if_neg e])
  obtain ⟨la, hla⟩ : ∃ la, la = L.getD (x / 2) 0 := ⟨_, rfl⟩
  rw [← hla] at x1 u1 u2 HL1 HL2
  have HNT := Lib.hid (not_good u1 (by omega))
  have HVX := Lib.hid (Var_of (l := (x : Int)) (by omega) (by omega) w)
  by_cases ox : x % 2 = 1
  · have HR := Lib.hid (HL1.out ox)
    have HN := Lib.hid (neg_odd hg (show (x : Int) % 2 = 1 by omega))
    clear hrow hla hg ox
    go_enter Try.func46, Try.ntmps46
    go_wp2_with fail
    go_at_call 34; refine HVX.out.mono ?_; rintro e w' ⟨rfl, hw⟩; obtain rfl := hw
    go_wp2_with fail
    go_at_call 55; refine (Neg_of HN.out _).mono ?_; rintro e w' ⟨rfl, rfl⟩
    go_wp2_with fail
    go_at_call 47; refine (lits.Not_any _ _).mono ?_; rintro e w' ⟨rfl, rfl⟩
    go_wp2_with fail
    go_ret
    exact ⟨retI (by rw [HNT.out, HR.out]), rfl⟩
  · have HR := Lib.hid (HL2.out ox)
    have HN := Lib.hid (neg_even hg (show (x : Int) % 2 = 0 by omega))
    clear hrow hla hg ox
    go_enter Try.func46, Try.ntmps46
    go_wp2_with fail
    go_at_call 34; refine HVX.out.mono ?_; rintro e w' ⟨rfl, hw⟩; obtain rfl := hw
    go_wp2_with fail
    go_at_call 55; refine (Neg_of HN.out _).mono ?_; rintro e w' ⟨rfl, rfl⟩
    go_wp2_with fail
    go_ret
    exact ⟨retI HR.out.symm, rfl⟩
theorem KInts.tail {P : Nat → Prop} {w : World} {a : Option Addr} {n cap : Nat} {i : Int} {is : List Int} (h : KInts P w (.slice a n cap) (i :: is)) :
    n = is.length + 1 ∧ n ≤ cap ∧ cap ≤ maxLen ∧ ∃ b off, a = some ⟨b, off, none⟩ ∧ b < w.heap.size ∧ ¬ P b ∧ w.cell? ⟨b, off, none⟩ = some (.int .i64 i) ∧ KInts P w (.slice (some ⟨b, off + 1, none⟩) (n - 1) (cap - 1)) is := by
  obtain ⟨a', cap', hv, h1, h2, h3⟩ := h
  obtain ⟨rfl, e, rfl⟩ := Value.slice.inj hv
  have hn : n = is.length + 1 := by simpa using e
  obtain ⟨b, off, ha, hlt, hp, hc⟩ := h3 (by simp)
  have h0 := hc 0 (by simp)
  simp only [List.length_cons] at h1
  refine ⟨hn, by omega, h2, b, off, ha, hlt, hp, by simpa [List.getD] using h0, some ⟨b, off + 1, none⟩, cap - 1, by rw [hn]; rfl, by omega, by omega, fun hp2 => ⟨b, off + 1, rfl, hlt, hp, fun j hj => ?_⟩⟩
  have := hc (j + 1) (by simp; omega)
  rw [show off + 1 + j = off + (j + 1) by omega]
  simpa [List.getD] using this
theorem kints_end {P : Nat → Prop} {w : World} (a : Option Addr) {cap : Nat} (h : cap ≤ maxLen) : KInts P w (.slice a 0 cap) [] := ⟨a, cap, rfl, by simp, h, fun hp => by simp at hp⟩
/-- behind an append to the list -/
theorem ggrow_end {A g mb t c : Nat} {v v2 lv : Value} {L : List Int} {r : Int} {M2 : Net} {w w1 w2 : World} {o : Obj} (s1 : GRep A w1 g mb v2 M2) (hm : Moved (GOwn g mb v) (GOwn g mb v2) w w1)
    (hl : LRow w.heap.size (GOwn g mb v2) w1 lv L) (hown : w2.ownsRow w.heap.size 3 1 (.slice (some ⟨t, 0, none⟩) (L.length + 1) c) (L.length + 1) (L.map (Value.int .i64) ++ [.int .i64 r]))
    (hg : (w1.alloc o).grownBy w2 lv.ownBlock) (hat : lv.ownBlock = some t ∨ w1.heap.size ≤ t) :
    GRep A w2 g mb v2 M2 ∧ Moved (GOwn g mb v) (GOwn g mb v2) w w2 ∧ LRow w.heap.size (GOwn g mb v2) w2 (.slice (some ⟨t, 0, none⟩) (L.length + 1) c) (L ++ [r]) := by
  have ha : Below w1.heap.size w1 (w1.alloc o) := (Below.refl _ _).alloc (Nat.le_refl _) _
  have s2 := s1.on ha
  refine ⟨?_, ?_, ?_, fun k hk hp => ?_⟩
  · obtain ⟨D, q0, s3, h1, h2⟩ := s2
    exact ⟨D, q0, s3.only (only_grown hg) (fun k hk e => hl.off k e hk), h1, h2⟩
  · exact (hm.grown (grown_of_below ha) (fun k hk => by cases hk)).grown hg (fun k hk => (hl.row.lt k hk).1)
  · rw [map_snocI] at hown
    rw [List.length_append, List.length_singleton]; exact hown
  · have e : k = t := by simpa [Value.ownBlock] using hk.symm
    subst e
    have := (s1.ge k hp).2
    rcases hat with e | e
    · exact hl.off k e hp
    · omega
/-- how Copy leaves things -/
def GCopied (A g mb : Nat) (v : Value) (l : List Int) (M : Net) (w : World) (e : Ending) (w' : World) : Prop :=
  ∃ v' u, e = .returned u ∧ GRep A w' g mb v' M ∧ Moved (GOwn g mb v) (GOwn g mb v') w w' ∧ LRow w.heap.size (GOwn g mb v') w' u l
theorem copyF_none {N n : Net} {zs : List Int} (h : allHas N.length zs = false) : copyF N n zs = ([], N) := by unfold copyF; rw [h]; rfl
set_option maxHeartbeats 1600000 in
theorem copy_bad (A g mb : Nat) (v nv u : Value) (N : Net) (ns : List (Int × Int)) (zs : List Int) (w : World) (r : GRep A w g mb v N) (hz : KInts (GOwn g mb v) w u zs) (hN : N.length ≤ 900000) (hzs : zs.length ≤ 1000) (hh : allHas N.length zs = false) :
    Calls Try.prog 24 #[.pointer (some ⟨g, 0, none⟩), nv, u] w (GCopied A g mb v (copyF N (ns.map absN) zs).1 (copyF N (ns.map absN) zs).2 w) := by
  have HK := Lib.hid hz
  have HS := Lib.hid r
  have HE : Hid (GCopied A g mb v (copyF N (ns.map absN) zs).1 (copyF N (ns.map absN) zs).2 w (.returned (.slice none 0 0)) w) := Lib.hid (by
    rw [copyF_none hh]; exact ⟨v, _, rfl, r, Moved.refl _ _, World.ownsRow_nil _ _ _ _, fun k hk => by simp [Value.ownBlock] at hk⟩)
  have HH := Lib.hid hh
  clear r hz hh
  go_enter Try.func24, Try.ntmps24
  go_wp2_with fail
  go_at_call 45; refine (known_of HH.out _ HS.out (by omega) HK.out hzs).mono ?_; rintro e w' ⟨rfl, rfl⟩
  go_wp2_with fail
  go_ret
  exact HE.out
set_option maxRecDepth 100000 in
set_option maxHeartbeats 1600000 in
theorem copy_any (A g mb : Nat) (v nv u : Value) (N : Net) (ns : List (Int × Int)) (zs : List Int) (w : World) (r : GRep A w g mb v N) (hn : KNds (GOwn g mb v) w nv ns) (hg : GoodN ns) (hz : KInts (GOwn g mb v) w u zs)
    (hN : N.length ≤ 900000) (hns : ns.length ≤ 1000) (hzs : zs.length ≤ 1000) :
    Calls Try.prog 24 #[.pointer (some ⟨g, 0, none⟩), nv, u] w (GCopied A g mb v (copyF N (ns.map absN) zs).1 (copyF N (ns.map absN) zs).2 w) := by
  cases hh : allHas N.length zs with
  | false => exact copy_bad A g mb v nv u N ns zs w r hz hN hzs hh
  | true =>
  obtain ⟨i0, hi, hz0, hz1, hz2⟩ := info_parts infoI
  have HA : Hid (copyF N (ns.map absN) zs = ((copyGo ([0], zs, N) (ns.map absN)).1, (copyGo ([0], zs, N) (ns.map absN)).2.2)) := Lib.hid (by unfold copyF; rw [hh]; rfl)
  have HZS : Hid (∀ z ∈ zs, hasB N.length z = true) := Lib.hid (by unfold allHas at hh; rw [List.all_eq_true] at hh; exact hh)
  have HC := Lib.hid (check_any _ nv ns w hn (by omega))
  rw [good_chk hg] at HC
  have HS := Lib.hid r
  have HK := Lib.hid hz
  have HKN := Lib.hid hn
  have HG := Lib.hid hg
  have HH := Lib.hid hh
  obtain ⟨an, capn, rfl, l3, l4, -⟩ := hn
  unfold maxLen at l4
  obtain ⟨m, hmm⟩ : ∃ m, m = ns.length := ⟨_, rfl⟩
  rw [← hmm] at l3 hns HKN HC ⊢
  have HM := Lib.hid hmm
  obtain ⟨q0, hq0⟩ : ∃ q0, q0 = m + 1 := ⟨_, rfl⟩
  have HQ1 : Hid ((m : Int) + 1 = (q0 : Int)) := Lib.hid (by omega)
  have q1 : 1 ≤ q0 := by omega
  have q2 : q0 ≤ 1001 := by omega
  clear r hz hg hh hmm hq0
  go_enter Try.func24, Try.ntmps24
  go_wp2_with fail
  go_at_call 45; refine (known_of HH.out _ HS.out (by omega) HK.out hzs).mono ?_; rintro e w' ⟨rfl, rfl⟩
  go_wp2_with fail
  go_at_call 8; refine HC.out.mono ?_; rintro e w1 ⟨rfl, hb1⟩
  have HB1 := Lib.hid hb1
  have hzz := hb1.size
  clear hb1
  go_wp2_with (refine wpList_make_one _ rfl (.const (.int .i64 1)) (.tmp 22) rfl w.heap.size q0 _ rfl rfl HQ1.out q1 (by omega) hzz ?_)
  intro w2 hown hgrow
  have HB2 : Hid (Below w.heap.size w w2) := Lib.hid (HB1.out.grown hgrow hzz (fun k hk => by cases hk))
  have HS2 : Hid (GRep A w2 g mb v N ∧ Moved (GOwn g mb v) (GOwn g mb v) w w2 ∧ LRow w.heap.size (GOwn g mb v) w2 (.slice (some ⟨w1.heap.size, 0, none⟩) 1 q0) [0]) := Lib.hid ⟨HS.out.on HB2.out, moved_of_below HB2.out, ⟨hown, fun k hk hp => by
    have e : k = w1.heap.size := by simpa [Value.ownBlock] using hk.symm
    have := (HS.out.ge k hp).2
    omega⟩⟩
  clear hown hgrow
  go_wp2_with fail
  go_loopw [2, 7, 26] (fun iv l i wr => ∃ (k : Nat) (L rs : List Int) (M : Net) (v' lv : Value), k ≤ m ∧ i = .int .i64 k ∧ l = lv ∧ M.length ≤ N.length + k ∧ N.length ≤ M.length ∧ L.length = k + 1 ∧ rs.length ≤ 1000 ∧
    Hid (KInts (GOwn g mb v) w iv rs) ∧ Hid (∀ z ∈ rs, hasB N.length z = true) ∧ Hid (copyGo ([0], zs, N) ((ns.map absN).take k) = (L, rs, M)) ∧ Hid (Lit0 L M.length) ∧ Hid (GRep A wr g mb v' M ∧ Moved (GOwn g mb v) (GOwn g mb v') w wr ∧ LRow w.heap.size (GOwn g mb v') wr lv L)) (fun _ _ i _ => m - (intOf i).toNat)
  case atStart => exact ⟨0, [0], zs, N, v, _, Nat.zero_le _, rfl, rfl, Nat.le_refl _, Nat.le_refl _, rfl, hzs, HK, HZS, Lib.hid rfl, Lib.hid (fun j => by cases j <;> simp <;> omega), HS2⟩
  case round =>
    clear HB2 HS2 HB1 hzz
    obtain ⟨k, L, rs, M, v', lv, hk, rfl, hlv, hM, hMN, hL, hrs, HKR, HZR, HGO, HLI, HW⟩ := hrel
    obtain rfl : lv = _ := hlv.symm
    obtain ⟨wo, rfl⟩ : ∃ wo : World, wo = wr := ⟨_, rfl⟩
    by_cases hlt : k < m
    · obtain ⟨b, off, hbo, -, e1, e2⟩ := (HKN.out.move HW.out.2.1).at_ hlt
      subst hbo
      have HAT := Lib.hid (absN_at (ns := ns) (k := k) (by rw [← HM.out]; exact hlt))
      have hgg := HG.out k (by rw [← HM.out]; exact hlt)
      obtain ⟨p, hp⟩ : ∃ p, p = (ns.getD k (0, 0)).1 := ⟨_, rfl⟩
      obtain ⟨q, hq⟩ : ∃ q, q = (ns.getD k (0, 0)).2 := ⟨_, rfl⟩
      rw [← hp, ← hq] at hgg
      have HABS : Hid (absN (ns.getD k (0, 0)) = if p < 0 then none else some (p.toNat, q.toNat)) := Lib.hid (by unfold absN; rw [← hp, ← hq])
      rw [← hp] at e1
      rw [← hq] at e2
      have d1 : (k : Int) < (m : Int) := by omega
      have d2 : 0 ≤ (k : Int) := by omega
      obtain ⟨t, c, rfl, -⟩ := HW.out.2.2.row.form (by omega)
      have HLL := Lib.hid hL
      have hLb : L.length ≤ 1001 := by omega
      obtain ⟨ia, icap, hiv, il1, il2, -⟩ := HKR.out
      subst hiv
      unfold maxLen at il2
      clear hp hq
      go_upto_region 9 with fail
      obtain ⟨W1, hW1⟩ : ∃ W1, W1 = wo.alloc (.cells #[.int .i64 p, .int .i64 q] 54) := ⟨_, rfl⟩
      obtain ⟨X, hX⟩ : ∃ X, X = wo.heap.size := ⟨_, rfl⟩
      have x0 : W1.cell? ⟨X, 0, none⟩ = some (.int .i64 p) := by rw [hW1, hX]; exact (box_at _ _ _ _).1
      have x1 : W1.cell? ⟨X, 1, none⟩ = some (.int .i64 q) := by rw [hW1, hX]; exact (box_at _ _ _ _).2
      have hXl : X < W1.heap.size := by rw [hW1, hX]; simp
      have HBX : Hid (Below wo.heap.size wo W1) := Lib.hid (by rw [hW1]; exact box_below wo p q _)
      rw [← hX, ← hW1]
      clear hX hW1 e1 e2
      by_cases hp0 : 0 ≤ p
      · obtain ⟨g1, g2, g3⟩ := hgg hp0
        obtain ⟨x, rfl⟩ := Int.eq_ofNat_of_zero_le hp0
        obtain ⟨y, rfl⟩ := Int.eq_ofNat_of_zero_le g2
        have hx : x / 2 < L.length := by omega
        have hy : y / 2 < L.length := by omega
        have HP : Hid (decide ((x : Int) < 0) = false) := Lib.hid (decide_eq_false (by omega))
        have HST : Hid (copyGo ([0], zs, N) ((ns.map absN).take (k + 1)) = (L ++ [(andF M (litAt L x) (litAt L y)).1], rs, (andF M (litAt L x) (litAt L y)).2)) := Lib.hid (by
          rw [copyGo_step HAT.out, HGO.out, HABS.out, if_neg (by omega)]; rfl)
        have HLX := Lib.hid (litAt_bd HLI.out x)
        have HLY := Lib.hid (litAt_bd HLI.out y)
        have HXL : Hid (x / 2 < L.length ∧ y / 2 < L.length ∧ L.length ≤ 1001) := Lib.hid ⟨hx, hy, hLb⟩
        have hML : M.length ≤ 901000 := by omega
        clear hgg hp0 g1 g2 g3 HABS HAT hL hx hy
        go_wp2_with fail
        go_at_call 32; refine (isInput_of (y : Int) HP.out _).mono ?_; rintro e w3 ⟨rfl, hb⟩
        have HB3 : Hid (Below wo.heap.size wo w3) := Lib.hid (HBX.out.trans (hb.mono HBX.out.size))
        have HW3 : Hid (GRep A w3 g mb v' M ∧ Moved (GOwn g mb v) (GOwn g mb v') w w3 ∧ LRow w.heap.size (GOwn g mb v') w3 (.slice (some ⟨t, 0, none⟩) L.length c) L) := Lib.hid ⟨HW.out.1.on HB3.out, HW.out.2.1.trans (moved_of_below HB3.out), HW.out.2.2.move (moved_of_below HB3.out)⟩
        have y0 := (hb.cell (p := ⟨X, 0, none⟩) hXl).trans x0
        have y1 := (hb.cell (p := ⟨X, 1, none⟩) hXl).trans x1
        clear hb x0 x1 hXl
        go_upto_region 10 with fail
        refine wp_region_still_tail 9 (by kernel_rfl) (by kernel_rfl) ?_
        simp only [List.take_succ_cons, List.take_zero, List.drop_succ_cons, List.drop_zero]
        generalize hW : ({ heap := w3.heap, tape := w3.tape, drawn := w3.drawn + 1, os := w3.os, output := w3.output } : World) = W
        replace y0 : W.cell? ⟨X, 0, none⟩ = some (.int .i64 (x : Int)) := by rw [← hW]; exact y0
        replace y1 : W.cell? ⟨X, 1, none⟩ = some (.int .i64 (y : Int)) := by rw [← hW]; exact y1
        have HBD : Hid (Below w3.heap.size w3 W) := Lib.hid (by rw [← hW]; exact (Below.refl _ w3).drew)
        have HWD : Hid (GRep A W g mb v' M ∧ Moved (GOwn g mb v) (GOwn g mb v') w W ∧ LRow w.heap.size (GOwn g mb v') W (.slice (some ⟨t, 0, none⟩) L.length c) L) := Lib.hid ⟨HW3.out.1.on HBD.out, HW3.out.2.1.trans (moved_of_below HBD.out), HW3.out.2.2.move (moved_of_below HBD.out)⟩
        have HF1 := Lib.hid (follow_any _ t c L x W HWD.out.2.2.row HXL.out.1 HXL.out.2.2 (by have := HLI.out (x / 2); omega))
        have HF2 := Lib.hid (follow_any _ t c L y W HWD.out.2.2.row HXL.out.2.1 HXL.out.2.2 (by have := HLI.out (y / 2); omega))
        clear hW
        repeat (first | still_step | (refine wpStill_step (fun K hK => ?_); go_simp; with_reducible refine ⟨_, HF1.out, hK _ ?_⟩; clear hK K) | (refine wpStill_step (fun K hK => ?_); go_simp; with_reducible refine ⟨_, HF2.out, hK _ ?_⟩; clear hK K))
        refine wpStill_nil ?_
        go_wp2_with fail
        go_at_call 30; refine (and_any A g mb v' M (litAt L x) (litAt L y) _ HWD.out.1 (by omega)).mono ?_; rintro e w5 ⟨v2, rfl, s1, s2⟩
        obtain ⟨n1, n2, -, -⟩ := and_len M (litAt L x) (litAt L y)
        have n3 := has_iff.1 (and_ext HLX.out HLY.out).2
        obtain ⟨r, hr⟩ : ∃ r, r = (andF M (litAt L x) (litAt L y)).1 := ⟨_, rfl⟩
        obtain ⟨M2, hM2⟩ : ∃ M2, M2 = (andF M (litAt L x) (litAt L y)).2 := ⟨_, rfl⟩
        rw [← hr, ← hM2] at HST n3
        rw [← hM2] at n1 n2 s1
        rw [← hr]
        have HX : Hid (GRep A w5 g mb v2 M2 ∧ Moved (GOwn g mb v) (GOwn g mb v2) w w5 ∧ LRow w.heap.size (GOwn g mb v2) w5 (.slice (some ⟨t, 0, none⟩) L.length c) L) := Lib.hid ⟨s1, HWD.out.2.1.trans s2, HWD.out.2.2.move s2⟩
        have HLI2 := Lib.hid (lit0_more HLI.out n2 n3)
        clear s1 s2 hr hM2 y0 y1
        have HROW := Lib.hid (own_on HX.out.2.2.row ((Below.refl _ w5).alloc (Nat.le_refl _) (.cells #[.int .i64 r] 3)))
        have hw5 := HX.out.2.1.only.size
        have c10 : (r == -1) = false := by simp; omega
        go_wp2_with (at_builtin; refine wpList_append_lies _ rfl (.tmp 57) (.tmp 59) 27 rfl w.heap.size 3 i0 (.int .i64 0) 1 8 Try.underlying27 hi hz0 hz1 hz2 rfl (by decide) (.slice (some ⟨t, 0, none⟩) L.length c) L.length (L.map (Value.int .i64)) rfl HROW.out ⟨w5.heap.size, 0, none⟩ 1 1 [.int .i64 r] rfl rfl (news1 _ _ _) (one_cell r) (by omega) (by unfold maxLen; omega) (by omega) (by simp; omega) _ rfl ?_)
        intro t2 c2 w6 hown hgrow hat _
        have HE := Lib.hid (ggrow_end HX.out.1 HX.out.2.1 HX.out.2.2 hown hgrow (hat.imp id (fun e => by omega)))
        clear hown hgrow hat
        go_wp2_with fail
        go_roundw
        case rel => exact ⟨k + 1, L ++ [r], rs, M2, v2, .slice (some ⟨t2, 0, none⟩) (L.length + 1) c2, by omega, by go_num, rfl, by omega, by omega, by rw [List.length_append, List.length_singleton, HLL.out], hrs, HKR, HZR, HST, HLI2, HE⟩
        case measure => simp [intOf]; omega
      · have hp1 : p < 0 := by omega
        have HP : Hid (decide (p < 0) = true) := Lib.hid (decide_eq_true hp1)
        have HAB : Hid (absN (ns.getD k (0, 0)) = none) := Lib.hid (by rw [HABS.out, if_pos hp1])
        have hML : M.length ≤ 901000 := by omega
        clear hgg hp0 hp1 HABS hL
        go_wp2_with fail
        go_at_call 32; refine (isInput_of q HP.out _).mono ?_; rintro e w3 ⟨rfl, hb⟩
        have HB3 : Hid (Below wo.heap.size wo w3) := Lib.hid (HBX.out.trans (hb.mono HBX.out.size))
        have HW3 : Hid (GRep A w3 g mb v' M ∧ Moved (GOwn g mb v) (GOwn g mb v') w w3 ∧ LRow w.heap.size (GOwn g mb v') w3 (.slice (some ⟨t, 0, none⟩) L.length c) L) := Lib.hid ⟨HW.out.1.on HB3.out, HW.out.2.1.trans (moved_of_below HB3.out), HW.out.2.2.move (moved_of_below HB3.out)⟩
        clear hb hXl x0 x1
        cases rs with
        | cons r is =>
          have HST : Hid (copyGo ([0], zs, N) ((ns.map absN).take (k + 1)) = (L ++ [r], is, M)) := Lib.hid (by
            rw [copyGo_step HAT.out, HGO.out, HAB.out]; rfl)
          have hhas := has_iff.1 (HZR.out r (by simp))
          have HZ2 : Hid (∀ z ∈ is, hasB N.length z = true) := Lib.hid (fun z hz => HZR.out z (by simp [hz]))
          have HLI2 := Lib.hid (lit0_more HLI.out (Nat.le_refl _) (r := r) ⟨by omega, by omega⟩)
          obtain ⟨n1, hn1⟩ : ∃ n1, n1 = (r :: is).length := ⟨_, rfl⟩
          rw [← hn1] at il1 hrs HKR ⊢
          obtain ⟨k1, k2, k3, bi, oi, hia, hbi, hpi, hci, hkt⟩ := KInts.tail HKR.out
          subst hia
          have hci3 := (HW3.out.2.1.cell hbi hpi oi).trans hci
          have HKT := Lib.hid hkt
          have h1n : 1 ≤ n1 := by omega
          have h0n : (0 : Int) < (n1 : Int) := by omega
          have hrs2 : is.length ≤ 1000 := by omega
          obtain ⟨r0, r1⟩ := hhas
          by_cases hc1 : icap = 1
          · obtain rfl : n1 = 1 := by omega
            obtain rfl : is = [] := List.eq_nil_of_length_eq_zero (by omega)
            subst hc1
            have HKE : Hid (KInts (GOwn g mb v) w (.slice (some ⟨bi, oi, none⟩) 0 0) []) := Lib.hid (kints_end _ (by omega))
            clear hn1 hci hkt k1 k2 k3 HKR
            go_upto_region 12 with fail
            go_quiet (fail)
            obtain ⟨w5, hw⟩ : ∃ w5, w5 = w3.drewN nq := ⟨_, rfl⟩
            have HX : Hid (GRep A w5 g mb v' M ∧ Moved (GOwn g mb v) (GOwn g mb v') w w5 ∧ LRow w.heap.size (GOwn g mb v') w5 (.slice (some ⟨t, 0, none⟩) L.length c) L) := Lib.hid (by
              have hd : Below w3.heap.size w3 w5 := hw ▸ below_drewN (Below.refl _ _) nq
              exact ⟨HW3.out.1.on hd, HW3.out.2.1.trans (moved_of_below hd), HW3.out.2.2.move (moved_of_below hd)⟩)
            rw [← hw]
            clear hw hci3
            have HROW := Lib.hid (own_on HX.out.2.2.row ((Below.refl _ w5).alloc (Nat.le_refl _) (.cells #[.int .i64 r] 3)))
            have hw5 := HX.out.2.1.only.size
            have c10 : (r == -1) = false := by simp; omega
            go_wp2_with (at_builtin; refine wpList_append_lies _ rfl (.tmp 57) (.tmp 59) 27 rfl w.heap.size 3 i0 (.int .i64 0) 1 8 Try.underlying27 hi hz0 hz1 hz2 rfl (by decide) (.slice (some ⟨t, 0, none⟩) L.length c) L.length (L.map (Value.int .i64)) rfl HROW.out ⟨w5.heap.size, 0, none⟩ 1 1 [.int .i64 r] rfl rfl (news1 _ _ _) (one_cell r) (by omega) (by unfold maxLen; omega) (by omega) (by simp; omega) _ rfl ?_)
            intro t2 c2 w6 hown hgrow hat _
            have HE := Lib.hid (ggrow_end HX.out.1 HX.out.2.1 HX.out.2.2 hown hgrow (hat.imp id (fun e => by omega)))
            clear hown hgrow hat
            go_wp2_with fail
            go_roundw
            case rel => exact ⟨k + 1, L ++ [r], [], M, v', .slice (some ⟨t2, 0, none⟩) (L.length + 1) c2, by omega, by go_num, rfl, by omega, by omega, by rw [List.length_append, List.length_singleton, HLL.out], by simp, HKE, HZ2, HST, HLI2, HE⟩
            case measure => simp [intOf]; omega
          · have h1c : 1 < icap := by omega
            clear hn1 hci hkt k1 k2 k3
            go_upto_region 12 with fail
            go_quiet (fail)
            obtain ⟨w5, hw⟩ : ∃ w5, w5 = w3.drewN nq := ⟨_, rfl⟩
            have HX : Hid (GRep A w5 g mb v' M ∧ Moved (GOwn g mb v) (GOwn g mb v') w w5 ∧ LRow w.heap.size (GOwn g mb v') w5 (.slice (some ⟨t, 0, none⟩) L.length c) L) := Lib.hid (by
              have hd : Below w3.heap.size w3 w5 := hw ▸ below_drewN (Below.refl _ _) nq
              exact ⟨HW3.out.1.on hd, HW3.out.2.1.trans (moved_of_below hd), HW3.out.2.2.move (moved_of_below hd)⟩)
            rw [← hw]
            clear hw hci3 hbi hpi
            have HROW := Lib.hid (own_on HX.out.2.2.row ((Below.refl _ w5).alloc (Nat.le_refl _) (.cells #[.int .i64 r] 3)))
            have hw5 := HX.out.2.1.only.size
            have c10 : (r == -1) = false := by simp; omega
            go_wp2_with (at_builtin; refine wpList_append_lies _ rfl (.tmp 57) (.tmp 59) 27 rfl w.heap.size 3 i0 (.int .i64 0) 1 8 Try.underlying27 hi hz0 hz1 hz2 rfl (by decide) (.slice (some ⟨t, 0, none⟩) L.length c) L.length (L.map (Value.int .i64)) rfl HROW.out ⟨w5.heap.size, 0, none⟩ 1 1 [.int .i64 r] rfl rfl (news1 _ _ _) (one_cell r) (by omega) (by unfold maxLen; omega) (by omega) (by simp; omega) _ rfl ?_)
            intro t2 c2 w6 hown hgrow hat _
            have HE := Lib.hid (ggrow_end HX.out.1 HX.out.2.1 HX.out.2.2 hown hgrow (hat.imp id (fun e => by omega)))
            clear hown hgrow hat
            go_wp2_with fail
            go_roundw
            case rel => exact ⟨k + 1, L ++ [r], is, M, v', .slice (some ⟨t2, 0, none⟩) (L.length + 1) c2, by omega, by go_num, rfl, by omega, by omega, by rw [List.length_append, List.length_singleton, HLL.out], hrs2, HKT, HZ2, HST, HLI2, HE⟩
            case measure => simp [intOf]; omega
        | nil =>
          have HST : Hid (copyGo ([0], zs, N) ((ns.map absN).take (k + 1)) = (L ++ [(inF M).1], [], (inF M).2)) := Lib.hid (by
            rw [copyGo_step HAT.out, HGO.out, HAB.out]; rfl)
          have h0n : (([] : List Int).length : Int) = 0 := rfl
          rw [show ([] : List Int).length = 0 from rfl] at HKR ⊢
          clear h0n
          go_wp2_with fail
          go_at_call 20; refine (input_any A g mb v' M _ HW3.out.1 (by omega)).mono ?_; rintro e w5 ⟨v2, rfl, s1, s2⟩
          obtain ⟨r, hr⟩ : ∃ r, r = (inF M).1 := ⟨_, rfl⟩
          obtain ⟨M2, hM2⟩ : ∃ M2, M2 = (inF M).2 := ⟨_, rfl⟩
          rw [← hr, ← hM2] at HST
          rw [← hM2] at s1
          rw [← hr]
          have n0 : M2.length = M.length + 1 := by rw [hM2]; simp [inF]
          have n3 : 0 ≤ r ∧ r ≤ 2 * (M2.length : Int) + 1 := by
            have e : r = 2 * ((M.length : Int) + 1) := by rw [hr]; rfl
            omega
          have HX : Hid (GRep A w5 g mb v2 M2 ∧ Moved (GOwn g mb v) (GOwn g mb v2) w w5 ∧ LRow w.heap.size (GOwn g mb v2) w5 (.slice (some ⟨t, 0, none⟩) L.length c) L) := Lib.hid ⟨s1, HW3.out.2.1.trans s2, HW3.out.2.2.move s2⟩
          have HLI2 := Lib.hid (lit0_more HLI.out (show M.length ≤ M2.length by omega) n3)
          clear s1 s2 hr hM2
          have HROW := Lib.hid (own_on HX.out.2.2.row ((Below.refl _ w5).alloc (Nat.le_refl _) (.cells #[.int .i64 r] 3)))
          have hw5 := HX.out.2.1.only.size
          have c10 : (r == -1) = false := by simp; omega
          go_wp2_with (at_builtin; refine wpList_append_lies _ rfl (.tmp 57) (.tmp 59) 27 rfl w.heap.size 3 i0 (.int .i64 0) 1 8 Try.underlying27 hi hz0 hz1 hz2 rfl (by decide) (.slice (some ⟨t, 0, none⟩) L.length c) L.length (L.map (Value.int .i64)) rfl HROW.out ⟨w5.heap.size, 0, none⟩ 1 1 [.int .i64 r] rfl rfl (news1 _ _ _) (one_cell r) (by omega) (by unfold maxLen; omega) (by omega) (by simp; omega) _ rfl ?_)
          intro t2 c2 w6 hown hgrow hat _
          have HE := Lib.hid (ggrow_end HX.out.1 HX.out.2.1 HX.out.2.2 hown hgrow (hat.imp id (fun e => by omega)))
          clear hown hgrow hat
          go_wp2_with fail
          go_roundw
          case rel => exact ⟨k + 1, L ++ [r], [], M2, v2, .slice (some ⟨t2, 0, none⟩) (L.length + 1) c2, by omega, by go_num, rfl, by omega, by omega, by rw [List.length_append, List.length_singleton, HLL.out], by simp, HKR, HZR, HST, HLI2, HE⟩
          case measure => simp [intOf]; omega
    · obtain rfl : m = k := by omega
      have HR : Hid (GCopied A g mb v (copyF N (ns.map absN) zs).1 (copyF N (ns.map absN) zs).2 w (.returned lv) wo) := Lib.hid (by
        have e := HGO.out
        rw [HM.out, show ns.length = (ns.map absN).length by simp, List.take_length] at e
        rw [HA.out, e]
        exact ⟨v', lv, rfl, HW.out.1, HW.out.2.1, HW.out.2.2⟩)
      clear hlt hk hL
      go_wp2_with fail
      go_ret
      exact HR.out
end Go.Proofs.Ytfdihlicmmcjjaa.aig
