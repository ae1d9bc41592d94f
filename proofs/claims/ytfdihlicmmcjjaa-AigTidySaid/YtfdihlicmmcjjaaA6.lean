/- The walk of the document's Copy. (Printed by XA6.py.) -/
import Derived.Test.YtfdihlicmmcjjaaA5
namespace Go.Proofs.Ytfdihlicmmcjjaa.aig
open Go.RowKit
open Go.Proofs.Ytfdihlicmmcjjaa.mem Go.Proofs.Ytfdihlicmmcjjaa.agf

/-- a list of the call's own, in none of the blocks of P -/
structure LRow (base : Nat) (P : Nat → Prop) (w : World) (v : Value) (zs : List Int) : Prop where
  row : w.ownsRow base 3 1 v zs.length (zs.map (Value.int .i64))
  off : ∀ k, v.ownBlock = some k → ¬ P k
theorem LRow.move {base : Nat} {P P' : Nat → Prop} {w w' : World} {v : Value} {zs : List Int} (h : LRow base P w v zs) (m : Moved P P' w w') : LRow base P' w' v zs := by
  refine ⟨?_, fun k hk hp => ?_⟩
  · obtain ⟨e1, e2⟩ := h.row
    refine ⟨e1, ?_⟩
    rcases e2 with e2 | ⟨g, cap, cur, rfl, h1, h2, h3⟩
    · exact .inl e2
    · exact .inr ⟨g, cap, cur, rfl, h1, (m.only.block g (Array.getElem?_eq_some_iff.1 h2).1 (h.off g rfl)).trans h2, h3⟩
  · have := (h.row.lt k hk).2
    rcases m.own k hp with e | e
    · exact h.off k hk e
    · omega
theorem infoI : (Try.prog.info? 3).map (fun i => (i.zero, i.size, i.bytes)) = some (some (.int .i64 0), 1, 8) := by kernel_rfl
theorem news1 (w : World) (x : Value) (t : TypeId) : ∀ j u, ([x] : List Value)[j]? = some u → (w.alloc (.cells #[x] t)).cell? ((⟨w.heap.size, 0, none⟩ : Addr).add j) = some u := by
  intro j u hj
  match j, hj with
  | 0, hj => simp at hj; subst hj; simp [Addr.add]
theorem one_cell (x : Int) : ∀ u ∈ ([.int .i64 x] : List Value), u.oneCell' = true := by
  intro u hu; simp at hu; subst hu; rfl
theorem Moved.grown {P P' : Nat → Prop} {w w1 w2 : World} {row : Option Nat} (h : Moved P P' w w1) (hg : w1.grownBy w2 row) (hr : ∀ k, row = some k → w.heap.size ≤ k) : Moved P P' w w2 :=
  ⟨⟨hg.os.trans h.only.os, hg.tape.trans h.only.tape, hg.output.trans h.only.output, Nat.le_trans h.only.size hg.size, fun k hk hn => by
    have hs := h.only.size
    rw [hg.block k (by omega) (fun e => by have := hr k e.symm; omega), h.only.block k hk hn]⟩, h.own⟩
theorem only_grown {w1 w2 : World} {row : Option Nat} (hg : w1.grownBy w2 row) : Only (fun k => row = some k) w1 w2 :=
  ⟨hg.os, hg.tape, hg.output, hg.size, fun k hk hn => hg.block k hk (fun e => hn e.symm)⟩
theorem map_snocI (L : List Int) (r : Int) : L.map (Value.int .i64) ++ [Value.int .i64 r] = (L ++ [r]).map (Value.int .i64) := by simp
/-- behind an append to the list -/
theorem grow_end {A B h t c : Nat} {sv sv2 lv : Value} {L : List Int} {r : Int} {M2 : Net} {w w1 w2 : World} {o : Obj} (s1 : Rs A B w1 h sv2 M2) (hm : Moved (ROwn h sv) (ROwn h sv2) w w1)
    (hl : LRow w.heap.size (ROwn h sv2) w1 lv L) (hown : w2.ownsRow w.heap.size 3 1 (.slice (some ⟨t, 0, none⟩) (L.length + 1) c) (L.length + 1) (L.map (Value.int .i64) ++ [.int .i64 r]))
    (hg : (w1.alloc o).grownBy w2 lv.ownBlock) (hat : lv.ownBlock = some t ∨ w1.heap.size ≤ t) :
    Rs A B w2 h sv2 M2 ∧ Moved (ROwn h sv) (ROwn h sv2) w w2 ∧ LRow w.heap.size (ROwn h sv2) w2 (.slice (some ⟨t, 0, none⟩) (L.length + 1) c) (L ++ [r]) := by
  have ha : Below w1.heap.size w1 (w1.alloc o) := (Below.refl _ _).alloc (Nat.le_refl _) _
  have s2 := s1.on ha
  refine ⟨s2.only (only_grown hg) (fun k hk e => hl.off k e hk), ?_, ?_, fun k hk hp => ?_⟩
  · exact (hm.grown (grown_of_below ha) (fun k hk => by cases hk)).grown hg (fun k hk => (hl.row.lt k hk).1)
  · rw [map_snocI] at hown
    rw [List.length_append, List.length_singleton]; exact hown
  · have e : k = t := by simpa [Value.ownBlock] using hk.symm
    subst e
    have := (s1.ge k hp).2
    rcases hat with e | e
    · exact hl.off k e hp
    · omega
/-- a node as it is read -/
def absN (p : Int × Int) : Nd := if p.1 < 0 then none else some (p.1.toNat, p.2.toNat)
/-- nodes of a good net -/
def GoodN (ns : List (Int × Int)) : Prop := ∀ i, i < ns.length → 0 ≤ (ns.getD i (0, 0)).1 → (ns.getD i (0, 0)).1 ≤ 2 * (i : Int) + 1 ∧ 0 ≤ (ns.getD i (0, 0)).2 ∧ (ns.getD i (0, 0)).2 ≤ 2 * (i : Int) + 1
theorem copyGo_step {s : List Int × List Int × Net} {n : Net} {k : Nat} {x : Nd} (h : n[k]? = some x) : copyGo s (n.take (k + 1)) = copyStep (copyGo s (n.take k)) x := by
  rw [take_snoc h]; unfold copyGo; rw [List.foldl_append]; rfl
theorem absN_at {ns : List (Int × Int)} {k : Nat} (h : k < ns.length) : (ns.map absN)[k]? = some (absN (ns.getD k (0, 0))) := by
  rw [List.getElem?_map, List.getElem?_eq_getElem h]; simp [List.getD, h]
theorem drop_at {zs : List Int} {k : Nat} (h : k < zs.length) : zs.drop k = zs.getD k 0 :: zs.drop (k + 1) := by
  rw [List.drop_eq_getElem_cons h]; simp [List.getD, h]
theorem copyStep_new {L : List Int} {zs : List Int} {kk : Nat} {M : Net} (h : zs.length ≤ kk) : copyStep (L, zs.drop kk, M) none = (L ++ [(inF M).1], zs.drop (kk + 1), (inF M).2) := by
  rw [List.drop_of_length_le h, List.drop_of_length_le (by omega)]; rfl
theorem copyStep_old {L : List Int} {zs : List Int} {kk : Nat} {M : Net} (h : kk < zs.length) : copyStep (L, zs.drop kk, M) none = (L ++ [zs.getD kk 0], zs.drop (kk + 1), M) := by
  rw [drop_at h]; rfl
/-- how far the literals reach that are told so far -/
def Lits (L : List Int) (m : Nat) : Prop := ∀ j, -1 ≤ L.getD j 0 ∧ L.getD j 0 ≤ 2 * (m : Int) + 1
theorem lits_more {L : List Int} {m m' : Nat} {r : Int} (h : Lits L m) (hm : m ≤ m') (hr : -1 ≤ r ∧ r ≤ 2 * (m' : Int) + 1) : Lits (L ++ [r]) m' := by
  intro j
  rcases Nat.lt_trichotomy j L.length with e | e | e
  · rw [snocI_l e]; have := h j; omega
  · rw [e, snocI_r]; exact hr
  · have : (L ++ [r]).getD j 0 = 0 := by simp only [List.getD]; rw [List.getElem?_eq_none (by simp; omega)]; rfl
    rw [this]; omega
/-- how Copy leaves things -/
def Copied (A B h : Nat) (sv : Value) (l : List Int) (M : Net) (w : World) (e : Ending) (w' : World) : Prop :=
  ∃ sv' v, e = .returned v ∧ Rs A B w' h sv' M ∧ Moved (ROwn h sv) (ROwn h sv') w w' ∧ LRow w.heap.size (ROwn h sv') w' v l
set_option maxRecDepth 100000 in
set_option maxHeartbeats 6400000 in
theorem refCopy_any (A B h : Nat) (sv nv v : Value) (N : Net) (ns : List (Int × Int)) (zs : List Int) (w : World) (s : Rs A B w h sv N) (hn : KNds (ROwn h sv) w nv ns) (hg : GoodN ns) (hz : KInts (ROwn h sv) w v zs)
    (hN : N.length ≤ 900000) (hns : ns.length ≤ 1000) (hzs : zs.length ≤ 1000) :
    Calls Try.prog 44 #[.pointer (some ⟨h, 0, none⟩), nv, v] w (Copied A B h sv (copyF N (ns.map absN) zs).1 (copyF N (ns.map absN) zs).2 w) := by
  obtain ⟨i0, hi, hz0, hz1, hz2⟩ := info_parts infoI
  have HS := Lib.hid s
  have HK := Lib.hid hz
  have HKN := Lib.hid hn
  have HG := Lib.hid hg
  obtain ⟨a, cap, rfl, l1, l2, hcell⟩ := hz
  obtain ⟨an, capn, rfl, l3, l4, -⟩ := hn
  unfold maxLen at l2 l4
  obtain ⟨n, hnn⟩ : ∃ n, n = zs.length := ⟨_, rfl⟩
  rw [← hnn] at l1 hzs hcell HK ⊢
  have HN := Lib.hid hnn
  obtain ⟨m, hmm⟩ : ∃ m, m = ns.length := ⟨_, rfl⟩
  rw [← hmm] at l3 hns HKN ⊢
  have HM := Lib.hid hmm
  have HC := Lib.hid hcell
  clear s hcell hnn hmm hg
  go_enter Try.func44, Try.ntmps44
  go_wp2_with fail
  go_loop [7] (fun i => ∃ k : Nat, k ≤ n ∧ i = .int .i64 k ∧ Hid (∀ j, j < k → hasB N.length (zs.getD j 0) = true)) (fun i => n - (intOf i).toNat)
  case atStart => exact ⟨0, Nat.zero_le _, rfl, Lib.hid (fun j hj => by omega)⟩
  case round =>
    obtain ⟨k, hk, rfl, HJ⟩ := hrel
    by_cases hlt : k < n
    · obtain ⟨b, off, rfl, hb, -, hcs⟩ := HC.out (by omega)
      have e1 := hcs k hlt
      obtain ⟨z, hz⟩ : ∃ z, z = zs.getD k 0 := ⟨_, rfl⟩
      rw [← hz] at e1
      have HZ := Lib.hid hz
      have d1 : (k : Int) < (n : Int) := by omega
      have d2 : 0 ≤ (k : Int) := by omega
      clear hcs hz
      cases hh : hasB N.length z
      · have HR : Hid (Copied A B h sv (copyF N (ns.map absN) zs).1 (copyF N (ns.map absN) zs).2 w (.returned (.slice none 0 0)) w) := Lib.hid (by
          have e : copyF N (ns.map absN) zs = ([], N) := by unfold copyF; rw [allHas_no (k := k) (by rw [← HN.out]; exact hlt) (by rw [← HZ.out]; exact hh)]; rfl
          rw [e]; exact ⟨sv, _, rfl, HS.out, Moved.refl _ _, World.ownsRow_nil _ _ _ _, fun k hk => by simp [Value.ownBlock] at hk⟩)
        have HH := Lib.hid hh
        clear hh
        go_wp2_with fail
        go_at_call 53; refine (refHas_of HH.out _ HS.out (by omega)).mono ?_; rintro e w' ⟨rfl, rfl⟩
        go_wp2_with fail
        go_ret
        exact HR.out
      · have HJ2 : Hid (∀ j, j < k + 1 → hasB N.length (zs.getD j 0) = true) := Lib.hid (fun j hj => by
          by_cases e : j = k
          · rw [e, ← HZ.out]; exact hh
          · exact HJ.out j (by omega))
        have HH := Lib.hid hh
        clear hh
        go_wp2_with fail
        go_at_call 53; refine (refHas_of HH.out _ HS.out (by omega)).mono ?_; rintro e w' ⟨rfl, rfl⟩
        go_wp2_with fail
        go_round
        case rel => exact ⟨k + 1, by omega, by go_num, HJ2⟩
        case measure => simp [intOf]; omega
    · obtain rfl : n = k := by omega
      have HA : Hid (copyF N (ns.map absN) zs = ((copyGo ([0], zs, N) (ns.map absN)).1, (copyGo ([0], zs, N) (ns.map absN)).2.2)) := Lib.hid (by unfold copyF; rw [allHas_yes (fun j hj => HJ.out j (by rw [HN.out]; exact hj))]; rfl)
      have HZS : Hid (∀ j, j < n → hasB N.length (zs.getD j 0) = true) := HJ
      have HL0 : Hid (LRow w.heap.size (ROwn h sv) (w.alloc (.cells #[.int .i64 0] 3)) (.slice (some ⟨w.heap.size, 0, none⟩) 1 1) [0]) := Lib.hid (by
        refine ⟨World.ownsRow_lit w #[.int .i64 0] 1 (Nat.le_refl _) (by unfold maxLen; omega) rfl, fun k hk hp => ?_⟩
        have e : k = w.heap.size := by simpa [Value.ownBlock] using hk.symm
        have := (HS.out.ge k hp).2
        omega)
      have HS0 : Hid (Rs A B (w.alloc (.cells #[.int .i64 0] 3)) h sv N ∧ Moved (ROwn h sv) (ROwn h sv) w (w.alloc (.cells #[.int .i64 0] 3))) := Lib.hid
        ⟨HS.out.on ((Below.refl _ _).alloc (Nat.le_refl _) _), moved_of_below ((Below.refl _ _).alloc (Nat.le_refl _) _)⟩
      clear hlt hk HJ
      go_wp2_with fail
      go_loopw [8, 9, 10] (fun l kv i wr => ∃ (k kk : Nat) (L : List Int) (M : Net) (sv' lv : Value), k ≤ m ∧ kk ≤ k ∧ i = .int .i64 k ∧ kv = .int .i64 kk ∧ l = lv ∧ M.length ≤ N.length + k ∧ N.length ≤ M.length ∧ L.length = k + 1 ∧
        Hid (copyGo ([0], zs, N) ((ns.map absN).take k) = (L, zs.drop kk, M)) ∧ Hid (Lits L M.length) ∧ Hid (Rs A B wr h sv' M ∧ Moved (ROwn h sv) (ROwn h sv') w wr ∧ LRow w.heap.size (ROwn h sv') wr lv L)) (fun _ _ i _ => m - (intOf i).toNat)
      case atStart => exact ⟨0, 0, [0], N, sv, _, Nat.zero_le _, Nat.le_refl _, rfl, rfl, rfl, Nat.le_refl _, Nat.le_refl _, rfl, Lib.hid rfl, Lib.hid (fun j => by cases j <;> simp <;> omega), Lib.hid ⟨HS0.out.1, HS0.out.2, HL0.out⟩⟩
      case round =>
        clear HL0 HS0
        obtain ⟨k, kk, L, M, sv', lv, hk, hkk, rfl, rfl, hlv, hM, hMN, hL, HGO, HLI, HW⟩ := hrel
        obtain rfl : lv = _ := hlv.symm
        obtain ⟨wo, rfl⟩ : ∃ wo : World, wo = wr := ⟨_, rfl⟩
        by_cases hlt : k < m
        · obtain ⟨a', cap', hv, -, -, hcs⟩ := HKN.out.move HW.out.2.1
          obtain ⟨b, off, ha, hb, -, hcs⟩ := hcs (by rw [← HM.out]; omega)
          obtain ⟨e1, e2⟩ := hcs k (by rw [← HM.out]; exact hlt)
          obtain ⟨rfl, -, rfl⟩ : an = a' ∧ m = ns.length ∧ capn = cap' := by simpa using hv
          subst ha
          have HAT := Lib.hid (absN_at (ns := ns) (k := k) (by rw [← HM.out]; exact hlt))
          have hgg := HG.out k (by rw [← HM.out]; exact hlt)
          obtain ⟨p, hp⟩ : ∃ p, p = (ns.getD k (0, 0)).1 := ⟨_, rfl⟩
          obtain ⟨q, hq⟩ : ∃ q, q = (ns.getD k (0, 0)).2 := ⟨_, rfl⟩
          rw [← hp, ← hq] at hgg
          have HABS : Hid (absN (ns.getD k (0, 0)) = if p < 0 then none else some (p.toNat, q.toNat)) := Lib.hid (by unfold absN; rw [← hp, ← hq])
          rw [← hp] at e1
          rw [← hq] at e2
          have d1 : (k : Int) < (m : Int) := by omega
          have d2 : 0 ≤ (k : Int) := by omega
          clear hcs hv hp hq
          by_cases hp0 : 0 ≤ p
          · obtain ⟨g1, g2, g3⟩ := hgg hp0
            obtain ⟨x, rfl⟩ := Int.eq_ofNat_of_zero_le hp0
            obtain ⟨y, rfl⟩ := Int.eq_ofNat_of_zero_le g2
            have hx : x ≤ 2 * k + 1 := by omega
            have hy : y ≤ 2 * k + 1 := by omega
            have HST : Hid (copyGo ([0], zs, N) ((ns.map absN).take (k + 1)) = (L ++ [(andF M (litAt L x) (litAt L y)).1], zs.drop kk, (andF M (litAt L x) (litAt L y)).2)) := Lib.hid (by
              rw [copyGo_step HAT.out, HGO.out, HABS.out, if_neg (by omega)]; rfl)
            obtain ⟨t, c, rfl, -⟩ := HW.out.2.2.row.form (by omega)
            have hrow := HW.out.2.2.row
            have x1 := hrow.cellAt (x / 2) (by omega)
            have x2 := hrow.cellAt (y / 2) (by omega)
            rw [List.getElem?_map, List.getElem?_eq_getElem (by omega)] at x1 x2
            obtain ⟨la, hla⟩ : ∃ la, la = L.getD (x / 2) 0 := ⟨_, rfl⟩
            obtain ⟨lb, hlb⟩ : ∃ lb, lb = L.getD (y / 2) 0 := ⟨_, rfl⟩
            replace x1 : wo.cell? ⟨t, x / 2, none⟩ = some (.int .i64 la) := by rw [x1, hla]; simp [List.getD, show x / 2 < L.length by omega]
            replace x2 : wo.cell? ⟨t, y / 2, none⟩ = some (.int .i64 lb) := by rw [x2, hlb]; simp [List.getD, show y / 2 < L.length by omega]
            obtain ⟨u1, u2⟩ := HLI.out (x / 2)
            obtain ⟨u3, u4⟩ := HLI.out (y / 2)
            rw [← hla] at u1 u2
            rw [← hlb] at u3 u4
            have HIA : Hid (In64 la) := Lib.hid (by unfold In64; omega)
            have HIB : Hid (In64 lb) := Lib.hid (by unfold In64; omega)
            have HLA : Hid ((x % 2 = 1 → litAt L x = nt la) ∧ (¬ x % 2 = 1 → litAt L x = la)) := Lib.hid (by rw [hla]; unfold litAt; exact ⟨fun e => if_pos e, fun e => if_neg e⟩)
            have HLB : Hid ((y % 2 = 1 → litAt L y = nt lb) ∧ (¬ y % 2 = 1 → litAt L y = lb)) := Lib.hid (by rw [hlb]; unfold litAt; exact ⟨fun e => if_pos e, fun e => if_neg e⟩)
            have b3 : (x : Int) / 2 < (L.length : Int) := by omega
            have b4 : 0 ≤ (x : Int) / 2 := by omega
            have b5 : (y : Int) / 2 < (L.length : Int) := by omega
            have b6 : 0 ≤ (y : Int) / 2 := by omega
            have HLL := Lib.hid hL
            have hLb : L.length ≤ 1001 := by omega
            clear hgg hp0 g1 g2 g3 hrow hla hlb u1 u2 u3 u4 HABS HAT hL hx hy
            go_upto_region 11 with fail
            go_quiet (fail)
            obtain ⟨W, hW⟩ : ∃ W : World, W = wo.drewN nq := ⟨_, rfl⟩
            have z1 : W.cell? ⟨b, off + k * 2, none⟩ = some (.int .i64 (x : Int)) := hW ▸ e1
            have z2 : W.cell? ⟨b, off + k * 2 + 1, none⟩ = some (.int .i64 (y : Int)) := hW ▸ e2
            have HW2 : Hid (Rs A B W h sv' M ∧ Moved (ROwn h sv) (ROwn h sv') w W ∧ LRow w.heap.size (ROwn h sv') W (.slice (some ⟨t, 0, none⟩) L.length c) L) := Lib.hid (by
              have hd : Moved (ROwn h sv') (ROwn h sv') wo W := moved_of_below (hW ▸ below_drewN (Below.refl _ _) nq)
              exact ⟨HW.out.1.on (hW ▸ below_drewN (Below.refl _ _) nq), HW.out.2.1.trans hd, HW.out.2.2.move hd⟩)
            rw [← hW]
            clear hW e1 e2 x1 x2 HW
            by_cases ox : x % 2 = 1
            · have c1 : ((x : Int) % 2 == 1) = true := by simp; omega
              have HLX : Hid (litAt L x = nt la) := Lib.hid (HLA.out.1 ox)
              clear ox
              by_cases oy : y % 2 = 1
              · have c2 : ((y : Int) % 2 == 1) = true := by simp; omega
                have HLY : Hid (litAt L y = nt lb) := Lib.hid (HLB.out.1 oy)
                clear oy
                go_wp2_with fail
                go_at_call 54; refine (refNot_any la _ HIA.out).mono ?_; rintro e w' ⟨rfl, rfl⟩
                go_wp2_with fail
                go_at_call 54; refine (refNot_any lb _ HIB.out).mono ?_; rintro e w' ⟨rfl, rfl⟩
                go_wp2_with fail
                go_at_call 39; refine (refAnd_any A B h sv' M (nt la) (nt lb) _ HW2.out.1 (by omega)).mono ?_; rintro e w1 ⟨sv2, rfl, s1, s2⟩
                rw [← HLX.out, ← HLY.out] at s1 ⊢
                have hm1 := HW2.out.2.1.trans s2
                have hl1 := HW2.out.2.2.move s2
                obtain ⟨q1, q2, q3, q4⟩ := and_len M (litAt L x) (litAt L y)
                obtain ⟨r, hr⟩ : ∃ r, r = (andF M (litAt L x) (litAt L y)).1 := ⟨_, rfl⟩
                obtain ⟨M2, hM2⟩ : ∃ M2, M2 = (andF M (litAt L x) (litAt L y)).2 := ⟨_, rfl⟩
                rw [← hr, ← hM2] at HST q4
                rw [← hM2] at q1 q2 s1
                rw [← hr] at q3 ⊢
                have HLI2 := Lib.hid (lits_more HLI.out q2 ⟨q3, q4⟩)
                have HX1 := Lib.hid s1
                have HX2 := Lib.hid hm1
                have HX3 := Lib.hid hl1
                have HROW := Lib.hid (own_on hl1.row ((Below.refl _ w1).alloc (Nat.le_refl _) (.cells #[.int .i64 r] 3)))
                have hw1 := hm1.only.size
                clear s1 s2 hm1 hl1 hr hM2
                go_wp2_with (at_builtin; refine wpList_append_lies _ rfl (.tmp 75) (.tmp 80) 27 rfl w.heap.size 3 i0 (.int .i64 0) 1 8 Try.underlying27 hi hz0 hz1 hz2 rfl (by decide) (.slice (some ⟨t, 0, none⟩) L.length c) L.length (L.map (Value.int .i64)) rfl HROW.out ⟨w1.heap.size, 0, none⟩ 1 1 [.int .i64 r] rfl rfl (news1 _ _ _) (one_cell r) (by omega) (by unfold maxLen; omega) (by omega) (by simp; omega) _ rfl ?_)
                intro t2 c2 w2 hown hgrow hat _
                have HE := Lib.hid (grow_end HX1.out HX2.out HX3.out hown hgrow (hat.imp id (fun e => by omega)))
                clear hown hgrow hat
                go_wp2_with fail
                go_roundw
                case rel => exact ⟨k + 1, kk, L ++ [r], M2, sv2, .slice (some ⟨t2, 0, none⟩) (L.length + 1) c2, by omega, by omega, by go_num, rfl, rfl, by omega, by omega, by rw [List.length_append, List.length_singleton, HLL.out], HST, HLI2, HE⟩
                case measure => simp [intOf]; omega
              · have c2 : ((y : Int) % 2 == 1) = false := by simp; omega
                have HLY : Hid (litAt L y = lb) := Lib.hid (HLB.out.2 oy)
                clear oy
                go_wp2_with fail
                go_at_call 54; refine (refNot_any la _ HIA.out).mono ?_; rintro e w' ⟨rfl, rfl⟩
                go_wp2_with fail
                go_at_call 39; refine (refAnd_any A B h sv' M (nt la) lb _ HW2.out.1 (by omega)).mono ?_; rintro e w1 ⟨sv2, rfl, s1, s2⟩
                rw [← HLX.out, ← HLY.out] at s1 ⊢
                have hm1 := HW2.out.2.1.trans s2
                have hl1 := HW2.out.2.2.move s2
                obtain ⟨q1, q2, q3, q4⟩ := and_len M (litAt L x) (litAt L y)
                obtain ⟨r, hr⟩ : ∃ r, r = (andF M (litAt L x) (litAt L y)).1 := ⟨_, rfl⟩
                obtain ⟨M2, hM2⟩ : ∃ M2, M2 = (andF M (litAt L x) (litAt L y)).2 := ⟨_, rfl⟩
                rw [← hr, ← hM2] at HST q4
                rw [← hM2] at q1 q2 s1
                rw [← hr] at q3 ⊢
                have HLI2 := Lib.hid (lits_more HLI.out q2 ⟨q3, q4⟩)
                have HX1 := Lib.hid s1
                have HX2 := Lib.hid hm1
                have HX3 := Lib.hid hl1
                have HROW := Lib.hid (own_on hl1.row ((Below.refl _ w1).alloc (Nat.le_refl _) (.cells #[.int .i64 r] 3)))
                have hw1 := hm1.only.size
                clear s1 s2 hm1 hl1 hr hM2
                go_wp2_with (at_builtin; refine wpList_append_lies _ rfl (.tmp 75) (.tmp 80) 27 rfl w.heap.size 3 i0 (.int .i64 0) 1 8 Try.underlying27 hi hz0 hz1 hz2 rfl (by decide) (.slice (some ⟨t, 0, none⟩) L.length c) L.length (L.map (Value.int .i64)) rfl HROW.out ⟨w1.heap.size, 0, none⟩ 1 1 [.int .i64 r] rfl rfl (news1 _ _ _) (one_cell r) (by omega) (by unfold maxLen; omega) (by omega) (by simp; omega) _ rfl ?_)
                intro t2 c2 w2 hown hgrow hat _
                have HE := Lib.hid (grow_end HX1.out HX2.out HX3.out hown hgrow (hat.imp id (fun e => by omega)))
                clear hown hgrow hat
                go_wp2_with fail
                go_roundw
                case rel => exact ⟨k + 1, kk, L ++ [r], M2, sv2, .slice (some ⟨t2, 0, none⟩) (L.length + 1) c2, by omega, by omega, by go_num, rfl, rfl, by omega, by omega, by rw [List.length_append, List.length_singleton, HLL.out], HST, HLI2, HE⟩
                case measure => simp [intOf]; omega
            · have c1 : ((x : Int) % 2 == 1) = false := by simp; omega
              have HLX : Hid (litAt L x = la) := Lib.hid (HLA.out.2 ox)
              clear ox
              by_cases oy : y % 2 = 1
              · have c2 : ((y : Int) % 2 == 1) = true := by simp; omega
                have HLY : Hid (litAt L y = nt lb) := Lib.hid (HLB.out.1 oy)
                clear oy
                go_wp2_with fail
                go_at_call 54; refine (refNot_any lb _ HIB.out).mono ?_; rintro e w' ⟨rfl, rfl⟩
                go_wp2_with fail
                go_at_call 39; refine (refAnd_any A B h sv' M la (nt lb) _ HW2.out.1 (by omega)).mono ?_; rintro e w1 ⟨sv2, rfl, s1, s2⟩
                rw [← HLX.out, ← HLY.out] at s1 ⊢
                have hm1 := HW2.out.2.1.trans s2
                have hl1 := HW2.out.2.2.move s2
                obtain ⟨q1, q2, q3, q4⟩ := and_len M (litAt L x) (litAt L y)
                obtain ⟨r, hr⟩ : ∃ r, r = (andF M (litAt L x) (litAt L y)).1 := ⟨_, rfl⟩
                obtain ⟨M2, hM2⟩ : ∃ M2, M2 = (andF M (litAt L x) (litAt L y)).2 := ⟨_, rfl⟩
                rw [← hr, ← hM2] at HST q4
                rw [← hM2] at q1 q2 s1
                rw [← hr] at q3 ⊢
                have HLI2 := Lib.hid (lits_more HLI.out q2 ⟨q3, q4⟩)
                have HX1 := Lib.hid s1
                have HX2 := Lib.hid hm1
                have HX3 := Lib.hid hl1
                have HROW := Lib.hid (own_on hl1.row ((Below.refl _ w1).alloc (Nat.le_refl _) (.cells #[.int .i64 r] 3)))
                have hw1 := hm1.only.size
                clear s1 s2 hm1 hl1 hr hM2
                go_wp2_with (at_builtin; refine wpList_append_lies _ rfl (.tmp 75) (.tmp 80) 27 rfl w.heap.size 3 i0 (.int .i64 0) 1 8 Try.underlying27 hi hz0 hz1 hz2 rfl (by decide) (.slice (some ⟨t, 0, none⟩) L.length c) L.length (L.map (Value.int .i64)) rfl HROW.out ⟨w1.heap.size, 0, none⟩ 1 1 [.int .i64 r] rfl rfl (news1 _ _ _) (one_cell r) (by omega) (by unfold maxLen; omega) (by omega) (by simp; omega) _ rfl ?_)
                intro t2 c2 w2 hown hgrow hat _
                have HE := Lib.hid (grow_end HX1.out HX2.out HX3.out hown hgrow (hat.imp id (fun e => by omega)))
                clear hown hgrow hat
                go_wp2_with fail
                go_roundw
                case rel => exact ⟨k + 1, kk, L ++ [r], M2, sv2, .slice (some ⟨t2, 0, none⟩) (L.length + 1) c2, by omega, by omega, by go_num, rfl, rfl, by omega, by omega, by rw [List.length_append, List.length_singleton, HLL.out], HST, HLI2, HE⟩
                case measure => simp [intOf]; omega
              · have c2 : ((y : Int) % 2 == 1) = false := by simp; omega
                have HLY : Hid (litAt L y = lb) := Lib.hid (HLB.out.2 oy)
                clear oy
                go_wp2_with fail
                go_at_call 39; refine (refAnd_any A B h sv' M la lb _ HW2.out.1 (by omega)).mono ?_; rintro e w1 ⟨sv2, rfl, s1, s2⟩
                rw [← HLX.out, ← HLY.out] at s1 ⊢
                have hm1 := HW2.out.2.1.trans s2
                have hl1 := HW2.out.2.2.move s2
                obtain ⟨q1, q2, q3, q4⟩ := and_len M (litAt L x) (litAt L y)
                obtain ⟨r, hr⟩ : ∃ r, r = (andF M (litAt L x) (litAt L y)).1 := ⟨_, rfl⟩
                obtain ⟨M2, hM2⟩ : ∃ M2, M2 = (andF M (litAt L x) (litAt L y)).2 := ⟨_, rfl⟩
                rw [← hr, ← hM2] at HST q4
                rw [← hM2] at q1 q2 s1
                rw [← hr] at q3 ⊢
                have HLI2 := Lib.hid (lits_more HLI.out q2 ⟨q3, q4⟩)
                have HX1 := Lib.hid s1
                have HX2 := Lib.hid hm1
                have HX3 := Lib.hid hl1
                have HROW := Lib.hid (own_on hl1.row ((Below.refl _ w1).alloc (Nat.le_refl _) (.cells #[.int .i64 r] 3)))
                have hw1 := hm1.only.size
                clear s1 s2 hm1 hl1 hr hM2
                go_wp2_with (at_builtin; refine wpList_append_lies _ rfl (.tmp 75) (.tmp 80) 27 rfl w.heap.size 3 i0 (.int .i64 0) 1 8 Try.underlying27 hi hz0 hz1 hz2 rfl (by decide) (.slice (some ⟨t, 0, none⟩) L.length c) L.length (L.map (Value.int .i64)) rfl HROW.out ⟨w1.heap.size, 0, none⟩ 1 1 [.int .i64 r] rfl rfl (news1 _ _ _) (one_cell r) (by omega) (by unfold maxLen; omega) (by omega) (by simp; omega) _ rfl ?_)
                intro t2 c2 w2 hown hgrow hat _
                have HE := Lib.hid (grow_end HX1.out HX2.out HX3.out hown hgrow (hat.imp id (fun e => by omega)))
                clear hown hgrow hat
                go_wp2_with fail
                go_roundw
                case rel => exact ⟨k + 1, kk, L ++ [r], M2, sv2, .slice (some ⟨t2, 0, none⟩) (L.length + 1) c2, by omega, by omega, by go_num, rfl, rfl, by omega, by omega, by rw [List.length_append, List.length_singleton, HLL.out], HST, HLI2, HE⟩
                case measure => simp [intOf]; omega
          · have hp1 : p < 0 := by omega
            have c1 : decide (0 ≤ p) = false := decide_eq_false hp0
            have HAB : Hid (absN (ns.getD k (0, 0)) = none) := Lib.hid (by rw [HABS.out, if_pos hp1])
            obtain ⟨t, c, rfl, -⟩ := HW.out.2.2.row.form (by omega)
            have HLL := Lib.hid hL
            have hLb : L.length ≤ 1001 := by omega
            clear hgg hp0 hp1 HABS hL e2
            by_cases hkn : kk < n
            · obtain ⟨a', cap', hv, -, -, hcs⟩ := HK.out.move HW.out.2.1
              obtain ⟨b', off', ha, hb', -, hcs⟩ := hcs (by rw [← HN.out]; omega)
              have e3 := hcs kk (by rw [← HN.out]; exact hkn)
              obtain ⟨rfl, -, rfl⟩ : a = a' ∧ n = zs.length ∧ cap = cap' := by simpa using hv
              subst ha
              obtain ⟨r, hr⟩ : ∃ r, r = zs.getD kk 0 := ⟨_, rfl⟩
              have hhas := has_iff.1 (HZS.out kk hkn)
              rw [← hr] at e3 hhas
              have HST : Hid (copyGo ([0], zs, N) ((ns.map absN).take (k + 1)) = (L ++ [r], zs.drop (kk + 1), M)) := Lib.hid (by
                rw [copyGo_step HAT.out, HGO.out, HAB.out, copyStep_old (by rw [← HN.out]; exact hkn), ← hr])
              have HLI2 := Lib.hid (lits_more HLI.out (Nat.le_refl _) (r := r) ⟨by omega, by omega⟩)
              have d3 : (kk : Int) < (n : Int) := by omega
              have d4 : 0 ≤ (kk : Int) := by omega
              obtain ⟨w1, rfl⟩ : ∃ w1 : World, w1 = wo := ⟨_, rfl⟩
              have HROW := Lib.hid (own_on HW.out.2.2.row ((Below.refl _ w1).alloc (Nat.le_refl _) (.cells #[.int .i64 r] 3)))
              have hw1 := HW.out.2.1.only.size
              clear hcs hv hr hhas hkn
              go_wp2_with (at_builtin; refine wpList_append_lies _ rfl (.tmp 86) (.tmp 91) 27 rfl w.heap.size 3 i0 (.int .i64 0) 1 8 Try.underlying27 hi hz0 hz1 hz2 rfl (by decide) (.slice (some ⟨t, 0, none⟩) L.length c) L.length (L.map (Value.int .i64)) rfl HROW.out ⟨w1.heap.size, 0, none⟩ 1 1 [.int .i64 r] rfl rfl (news1 _ _ _) (one_cell r) (by omega) (by unfold maxLen; omega) (by omega) (by simp; omega) _ rfl ?_)
              intro t2 c2 w2 hown hgrow hat _
              have HE := Lib.hid (grow_end HW.out.1 HW.out.2.1 HW.out.2.2 hown hgrow (hat.imp id (fun e => by omega)))
              clear hown hgrow hat
              go_wp2_with fail
              go_roundw
              case rel => exact ⟨k + 1, kk + 1, L ++ [r], M, sv', .slice (some ⟨t2, 0, none⟩) (L.length + 1) c2, by omega, by omega, by go_num, by go_num, rfl, by omega, by omega, by rw [List.length_append, List.length_singleton, HLL.out], HST, HLI2, HE⟩
              case measure => simp [intOf]; omega
            · have c2 : decide (kk < n) = false := by simp; omega
              obtain ⟨r, hr⟩ : ∃ r, r = (inF M).1 := ⟨_, rfl⟩
              obtain ⟨M2, hM2⟩ : ∃ M2, M2 = (inF M).2 := ⟨_, rfl⟩
              have HST : Hid (copyGo ([0], zs, N) ((ns.map absN).take (k + 1)) = (L ++ [r], zs.drop (kk + 1), M2)) := Lib.hid (by
                rw [copyGo_step HAT.out, HGO.out, HAB.out, copyStep_new (by rw [← HN.out]; omega), ← hr, ← hM2])
              have q1 : M2.length = M.length + 1 := by rw [hM2]; simp [inF]
              have q2 : r = 2 * ((M.length : Int) + 1) := by rw [hr]; rfl
              have HLI2 := Lib.hid (lits_more HLI.out (m' := M2.length) (by omega) (r := r) ⟨by omega, by omega⟩)
              have q3 : M2.length ≤ N.length + (k + 1) := by omega
              have q4 : N.length ≤ M2.length := by omega
              have HR := Lib.hid hr
              have HMM := Lib.hid hM2
              clear hr hM2 hkn q1 q2
              go_wp2_with fail
              go_at_call 38; refine (refInput_any A B h sv' M _ HW.out.1 (by omega)).mono ?_; rintro e w1 ⟨sv2, rfl, s1, s2⟩
              rw [← HMM.out] at s1
              rw [← HR.out]
              have hm1 := HW.out.2.1.trans s2
              have hl1 := HW.out.2.2.move s2
              have HX1 := Lib.hid s1
              have HX2 := Lib.hid hm1
              have HX3 := Lib.hid hl1
              have HROW := Lib.hid (own_on hl1.row ((Below.refl _ w1).alloc (Nat.le_refl _) (.cells #[.int .i64 r] 3)))
              have hw1 := hm1.only.size
              clear s1 s2 hm1 hl1
              go_wp2_with (at_builtin; refine wpList_append_lies _ rfl (.tmp 93) (.tmp 96) 27 rfl w.heap.size 3 i0 (.int .i64 0) 1 8 Try.underlying27 hi hz0 hz1 hz2 rfl (by decide) (.slice (some ⟨t, 0, none⟩) L.length c) L.length (L.map (Value.int .i64)) rfl HROW.out ⟨w1.heap.size, 0, none⟩ 1 1 [.int .i64 r] rfl rfl (news1 _ _ _) (one_cell r) (by omega) (by unfold maxLen; omega) (by omega) (by simp; omega) _ rfl ?_)
              intro t2 c2 w2 hown hgrow hat _
              have HE := Lib.hid (grow_end HX1.out HX2.out HX3.out hown hgrow (hat.imp id (fun e => by omega)))
              clear hown hgrow hat
              go_wp2_with fail
              go_roundw
              case rel => exact ⟨k + 1, kk + 1, L ++ [r], M2, sv2, .slice (some ⟨t2, 0, none⟩) (L.length + 1) c2, by omega, by omega, by go_num, by go_num, rfl, by omega, by omega, by rw [List.length_append, List.length_singleton, HLL.out], HST, HLI2, HE⟩
              case measure => simp [intOf]; omega
        · obtain rfl : m = k := by omega
          have HR : Hid (Copied A B h sv (copyF N (ns.map absN) zs).1 (copyF N (ns.map absN) zs).2 w (.returned lv) wo) := Lib.hid (by
            have e := HGO.out
            rw [HM.out, show ns.length = (ns.map absN).length by simp, List.take_length] at e
            rw [HA.out, e]
            exact ⟨sv', lv, rfl, HW.out.1, HW.out.2.1, HW.out.2.2⟩)
          clear hlt hk hL
          go_wp2_with fail
          go_ret
          exact HR.out
end Go.Proofs.Ytfdihlicmmcjjaa.aig
