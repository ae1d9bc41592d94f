/- The walks of the document's Of, Support, Fanouts, Above. (Printed by XC2.py.) -/
import Derived.Test.YtbdmndhjbemenaaC1
import Derived.IntWalk
namespace Go.Proofs.Ytbdmndhjbemenaa.aig
open Go.RowKit
open Go.Proofs.Ytbdmndhjbemenaa.mem Go.Proofs.Ytbdmndhjbemenaa.agf Go.Proofs.Ytbdmndhjbemenaa.ints

theorem Ints.at_ {w : World} {a : Option Addr} {m cap : Nat} {zs : List Int} (h : Ints w (.slice a m cap) zs) {i : Nat} (hi : i < m) : ∃ b off, a = some ⟨b, off, none⟩ ∧ b < w.heap.size ∧ w.cell? ⟨b, off + i, none⟩ = some (.int .i64 (zs.getD i 0)) := by
  obtain ⟨a', cap', hv, h1, h2, h3⟩ := h
  obtain ⟨rfl, rfl, rfl⟩ := Value.slice.inj hv
  obtain ⟨b, off, ha, hlt, hc⟩ := h3 (by omega)
  exact ⟨b, off, ha, hlt, hc i hi⟩
theorem Ints.form {w : World} {v : Value} {zs : List Int} (h : Ints w v zs) : ∃ a cap, v = .slice a zs.length cap ∧ zs.length ≤ cap ∧ cap ≤ maxLen := by
  obtain ⟨a, cap, hv, h1, h2, -⟩ := h; exact ⟨a, cap, hv, h1, h2⟩
theorem Ints.on {w w' : World} {v : Value} {zs : List Int} (h : Ints w v zs) (hb : Below w.heap.size w w') : Ints w' v zs := by
  obtain ⟨a, cap, hv, h1, h2, h3⟩ := h
  refine ⟨a, cap, hv, h1, h2, fun hp => ?_⟩
  obtain ⟨b, off, ha, hlt, hc⟩ := h3 hp
  exact ⟨b, off, ha, Nat.lt_of_lt_of_le hlt hb.size, fun i hi => (hb.cell (p := ⟨b, off + i, none⟩) hlt).trans (hc i hi)⟩
theorem kints_of_row {w : World} {E : Nat} {v : Value} {zs : List Int} {P : Nat → Prop} (h : w.ownsRow E 3 1 v zs.length (zs.map (Value.int .i64))) (hP : ∀ k, P k → k < E) : KInts P w v zs := by
  rcases h.2 with ⟨rfl, h0⟩ | ⟨g, cap, cur, rfl, hb, hg, hn, hm, hs, ht⟩
  · exact ⟨none, 0, by rw [h0], by omega, by unfold maxLen; omega, fun hp => by omega⟩
  · refine ⟨some ⟨g, 0, none⟩, cap, rfl, hn, hm, fun hp => ⟨g, 0, rfl, (Array.getElem?_eq_some_iff.1 hg).1, fun e => by have := hP g e; omega, fun i hi => ?_⟩⟩
    rw [Nat.zero_add, h.cellAt i (by omega), List.getElem?_map, List.getElem?_eq_getElem hi]
    simp [List.getD, hi]
theorem KInts.cell_ {P : Nat → Prop} {w : World} {a : Option Addr} {m cap : Nat} {zs : List Int} (h : KInts P w (.slice a m cap) zs) {i : Nat} (hi : i < m) : ∃ b off, a = some ⟨b, off, none⟩ ∧ b < w.heap.size ∧ w.cell? ⟨b, off + i, none⟩ = some (.int .i64 (zs.getD i 0)) := by
  obtain ⟨a', cap', hv, h1, h2, h3⟩ := h
  obtain ⟨rfl, rfl, rfl⟩ := Value.slice.inj hv
  obtain ⟨b, off, ha, hlt, -, hc⟩ := h3 (by omega)
  exact ⟨b, off, ha, hlt, hc i hi⟩
/-- what an append to a row of one's own leaves alone -/
theorem moved_append {lv : Value} {t : Nat} {w w3 : World} {o : Obj} (hg : (w.alloc o).grownBy w3 lv.ownBlock) (hat : lv.ownBlock = some t ∨ w.heap.size ≤ t) : Moved (fun k => lv.ownBlock = some k) (fun k => t = k) w w3 := by
  have ha : Below w.heap.size w (w.alloc o) := (Below.refl _ _).alloc (Nat.le_refl _) _
  have hz := ha.size
  refine ⟨⟨hg.os.trans ha.os, hg.tape.trans ha.tape, hg.output.trans ha.output, Nat.le_trans ha.size hg.size, fun k hk hn => ?_⟩, fun k hk => ?_⟩
  · exact (hg.block k (by omega) (fun e => hn e.symm)).trans (ha.block k hk)
  · subst hk
    rcases hat with e | e
    · exact .inl e
    · exact .inr e
/-- whether some of the first j literals hang on a variable -/
def anyTo (N : Net) (zs : List Int) (i j : Nat) : Bool := (zs.take j).any fun x => hangsB N x ((i : Int) + 1)
theorem any_step (N : Net) (zs : List Int) (i : Nat) {j : Nat} (h : j < zs.length) : anyTo N zs i (j + 1) = (anyTo N zs i j || hangsB N (zs.getD j 0) ((i : Int) + 1)) := by
  unfold anyTo
  rw [List.take_succ_eq_append_getElem h, List.any_append]
  simp [List.getD, h]
theorem any_all (N : Net) (zs : List Int) (i : Nat) : anyTo N zs i zs.length = ofB N zs i := by unfold anyTo ofB; rw [List.take_length]
theorem any_yes {N : Net} {zs : List Int} {i j : Nat} (h : anyTo N zs i j = true) : ofB N zs i = true := by
  unfold anyTo at h
  unfold ofB
  rw [List.any_eq_true] at h ⊢
  obtain ⟨x, hx, h⟩ := h
  exact ⟨x, List.mem_of_mem_take hx, h⟩
theorem sel_yes {f : Nat → Bool} {k : Nat} (h : f k = true) : selTo f (k + 1) = selTo f k ++ [(k : Int) + 1] := by rw [sel_step, h]; rfl
theorem sel_no {f : Nat → Bool} {k : Nat} (h : f k = false) : selTo f (k + 1) = selTo f k := by rw [sel_step, h]; simp
theorem in64_at {zs : List Int} (h : ∀ z ∈ zs, In64 z) (j : Nat) : In64 (zs.getD j 0) := by
  by_cases hj : j < zs.length
  · have e : zs.getD j 0 = zs[j] := by simp [List.getD, hj]
    rw [e]; exact h _ (List.getElem_mem hj)
  · simp only [List.getD]
    rw [List.getElem?_eq_none (by omega)]
    unfold In64; simp
theorem sel_bd {f : Nat → Bool} {k : Nat} {j : Nat} (hj : j < (selTo f k).length) : 1 ≤ (selTo f k).getD j 0 ∧ (selTo f k).getD j 0 ≤ (k : Int) ∧ f ((selTo f k).getD j 0 - 1).toNat = true := by
  have e : (selTo f k).getD j 0 = (selTo f k)[j] := by simp [List.getD, hj]
  have hm : (selTo f k)[j] ∈ selTo f k := List.getElem_mem hj
  obtain ⟨z, hz⟩ : ∃ z, z = (selTo f k)[j] := ⟨_, rfl⟩
  rw [e, ← hz]
  rw [← hz] at hm
  unfold selTo at hm
  rw [List.mem_map] at hm
  obtain ⟨i, hi, he⟩ := hm
  have := List.mem_filter.1 hi
  have h1 := List.mem_range.1 this.1
  subst he
  exact ⟨by omega, by omega, by rw [show ((i : Int) + 1 - 1).toNat = i by omega]; exact this.2⟩
set_option maxRecDepth 100000 in
set_option maxHeartbeats 1600000 in
theorem refCones_any (v u : Value) (ns : List (Int × Int)) (zs : List Int) (w : World) (hv : KNds (fun _ => False) w v ns) (hg : GoodN ns) (hn : ns.length ≤ 1000) (hu : Ints w u zs) (h64 : ∀ z ∈ zs, In64 z) (hl : zs.length ≤ 1000) :
    Calls Try.prog 11 #[v, u] w (Told (selTo (ofB (ns.map absN) zs) ns.length) w) := by
  obtain ⟨i0, hi, hz0, hz1, hz2⟩ := info_parts infoI
  obtain ⟨a, cap, rfl, l1, l2⟩ := hv.form
  unfold maxLen at l2
  obtain ⟨m, hm⟩ : ∃ m, m = ns.length := ⟨_, rfl⟩
  rw [← hm] at l1 hn hv ⊢
  have HV := Lib.hid hv
  have HM := Lib.hid hm
  have HG := Lib.hid hg
  obtain ⟨ua, ucap, rfl, l3, l4⟩ := Ints.form hu
  unfold maxLen at l4
  obtain ⟨n, hnn⟩ : ∃ n, n = zs.length := ⟨_, rfl⟩
  rw [← hnn] at l3 hl hu ⊢
  have HU := Lib.hid hu
  have HNN := Lib.hid hnn
  have H64 := Lib.hid (in64_at h64)
  have HB0 : Hid (Below w.heap.size w (w.alloc (.cells #[] 3))) := Lib.hid ((Below.refl _ _).alloc (Nat.le_refl _) _)
  have HR0 : Hid ((w.alloc (.cells #[] 3)).ownsRow w.heap.size 3 1 (.slice (some ⟨w.heap.size, 0, none⟩) 0 0) 0 []) := Lib.hid (World.ownsRow_made _ #[] 0 (Nat.le_refl _) (by unfold maxLen; omega) rfl)
  clear hv hm hg hu hnn h64
  go_enter Try.func11, Try.ntmps11
  go_wp2_with fail
  go_loopw [5, 6] (fun l i wr => ∃ (k : Nat) (L : List Int) (lv : Value), k ≤ m ∧ i = .int .i64 ((k : Int) + 1) ∧ l = lv ∧ L.length ≤ k ∧ Hid (L = selTo (ofB (ns.map absN) zs) k) ∧ Hid (wr.ownsRow w.heap.size 3 1 lv L.length (L.map (Value.int .i64)) ∧ Below w.heap.size w wr)) (fun _ i _ => m + 1 - (intOf i).toNat)
  case atStart => exact ⟨0, [], _, Nat.zero_le _, by go_num, rfl, Nat.le_refl _, Lib.hid rfl, Lib.hid ⟨HR0.out, HB0.out⟩⟩
  case round =>
    clear HB0 HR0
    obtain ⟨k, L, lv, hk, rfl, hlv, hL, HLI, HW⟩ := hrel
    obtain rfl : lv = _ := hlv.symm
    obtain ⟨wo, rfl⟩ : ∃ wo : World, wo = wr := ⟨_, rfl⟩
    by_cases hlt : k < m
    · have d1 : decide ((k : Int) + 1 ≤ (m : Int)) = true := by simp; omega
      have d2 : 0 ≤ (k : Int) := by omega
      have hwz := HW.out.2.size
      go_wp2_with fail
      go_loopw [7, 8] (fun b j wr => ∃ (q : Nat) (x : Bool), q ≤ n ∧ j = .int .i64 q ∧ b = .bool x ∧ Hid (x = anyTo (ns.map absN) zs k q) ∧ Hid (Below wo.heap.size wo wr)) (fun _ j _ => n - (intOf j).toNat)
      case atStart => exact ⟨0, false, Nat.zero_le _, rfl, rfl, Lib.hid rfl, Lib.hid (Below.refl _ _)⟩
      case round =>
        obtain ⟨q, x, hq, rfl, rfl, HX, HB⟩ := hrel
        obtain ⟨wi, rfl⟩ : ∃ wi : World, wi = wr := ⟨_, rfl⟩
        have HWI : Hid (Below w.heap.size w wi) := Lib.hid (HW.out.2.trans (HB.out.mono hwz))
        cases x with
        | true =>
          have HN : Hid (L ++ [(k : Int) + 1] = selTo (ofB (ns.map absN) zs) (k + 1)) := Lib.hid (by rw [sel_yes (any_yes HX.out.symm), HLI.out])
          obtain ⟨r, hr⟩ : ∃ r, r = (k : Int) + 1 := ⟨_, rfl⟩
          rw [← hr] at HN
          have HRR := Lib.hid hr
          have HRO := Lib.hid (own_on HW.out.1 HB.out)
          have HROW := Lib.hid (own_on HRO.out ((Below.refl _ wi).alloc (Nat.le_refl _) (.cells #[.int .i64 r] 3)))
          have HBW := HWI
          have hsz := HBW.out.size
          clear hr
          by_cases hqn : q < n
          all_goals
            go_wp2_with (at_builtin; refine wpList_append_lies _ rfl (.tmp 34) (.tmp 36) 23 rfl w.heap.size 3 i0 (.int .i64 0) 1 8 Try.underlying23 hi hz0 hz1 hz2 rfl (by decide) lv L.length (L.map (Value.int .i64)) rfl (by rw [← HRR.out]; exact HROW.out) ⟨wi.heap.size, 0, none⟩ 1 1 [.int .i64 ((k : Int) + 1)] rfl rfl (news1 _ _ _) (one_cell _) (by omega) (by unfold maxLen; omega) (by omega) (by simp; omega) _ rfl ?_)
            intro t2 c2 w3 hown hgrow hat _
            have HE := Lib.hid (row_end HBW.out hsz HRO.out hown hgrow)
            have HMV := Lib.hid (moved_append hgrow (hat.imp id (fun e => by omega)))
            clear hown hgrow hat
            go_wp2_with fail
            go_roundw
            case rel => exact ⟨k + 1, L ++ [(k : Int) + 1], .slice (some ⟨t2, 0, none⟩) (L.length + 1) c2, by omega, by go_num, rfl, by simp; omega, by rw [← HRR.out]; exact HN, HE⟩
            case measure => simp [intOf]; omega
        | false =>
          by_cases hqn : q < n
          · obtain ⟨b, off, rfl, -, e1⟩ := Ints.at_ (Ints.on HU.out HWI.out) hqn
            have HZ := Lib.hid (any_step (ns.map absN) zs k (j := q) (by rw [← HNN.out]; exact hqn))
            have HZ64 := Lib.hid (H64.out q)
            obtain ⟨z, hz⟩ : ∃ z, z = zs.getD q 0 := ⟨_, rfl⟩
            rw [← hz] at e1 HZ HZ64
            have HC := Lib.hid (refHangs_any (fun _ => False) _ ns z ((k : Int) + 1) wi (HV.out.on HWI.out) HG.out (by rw [← HM.out]; exact hn) HZ64.out)
            have d3 : (q : Int) < (n : Int) := by omega
            have d4 : 0 ≤ (q : Int) := by omega
            have HX2 : Hid (hangsB (ns.map absN) z ((k : Int) + 1) = anyTo (ns.map absN) zs k (q + 1)) := Lib.hid (by rw [HZ.out, ← HX.out]; rfl)
            clear hz
            go_wp2_with fail
            go_at_call 27; refine HC.out.mono ?_; rintro e w2 ⟨rfl, hb⟩
            have HB2 := Lib.hid (HB.out.trans (hb.mono HB.out.size))
            clear hb
            go_wp2_with fail
            go_roundw
            case rel => exact ⟨q + 1, _, by omega, by go_num, rfl, HX2, HB2⟩
            case measure => simp [intOf]; omega
          · obtain rfl : n = q := by omega
            have HN : Hid (L = selTo (ofB (ns.map absN) zs) (k + 1)) := Lib.hid (by
              rw [sel_no, HLI.out]
              rw [← any_all, ← HNN.out]; exact HX.out.symm)
            have HE : Hid (wi.ownsRow w.heap.size 3 1 lv L.length (L.map (Value.int .i64)) ∧ Below w.heap.size w wi) := Lib.hid ⟨own_on HW.out.1 HB.out, HWI.out⟩
            clear hqn hq
            go_wp2_with fail
            go_roundw
            case rel => exact ⟨k + 1, L, lv, by omega, by go_num, rfl, by omega, HN, HE⟩
            case measure => simp [intOf]; omega
    · obtain rfl : m = k := by omega
      have d1 : decide ((m : Int) + 1 ≤ (m : Int)) = false := by simp; omega
      have HE : Hid (Told (selTo (ofB (ns.map absN) zs) m) w (.returned lv) wo) := Lib.hid (by rw [← HLI.out]; exact ⟨lv, rfl, HW.out.1, HW.out.2⟩)
      clear hlt hk
      go_wp2_with fail
      go_ret
      exact HE.out
/-- those of some variables that are inputs -/
def supF (ns : List (Int × Int)) (L : List Int) : List Int := L.filter fun z => decide ((ns.getD (z - 1).toNat (0, 0)).1 < 0)
theorem sup_sel (ns : List (Int × Int)) (f : Nat → Bool) (m : Nat) : supF ns (selTo f m) = selTo (fun i => f i && decide ((ns.getD i (0, 0)).1 < 0)) m := by
  unfold supF selTo
  rw [List.filter_map, List.filter_filter]
  congr 1
  refine List.filter_congr fun i _ => ?_
  simp only [Function.comp]
  rw [show ((i : Int) + 1 - 1).toNat = i by omega, Bool.and_comm]
theorem supF_step (ns : List (Int × Int)) {L : List Int} {j : Nat} (h : j < L.length) : supF ns (L.take (j + 1)) = supF ns (L.take j) ++ (if (ns.getD (L.getD j 0 - 1).toNat (0, 0)).1 < 0 then [L.getD j 0] else []) := by
  unfold supF
  rw [List.take_succ_eq_append_getElem h, List.filter_append]
  have e : L.getD j 0 = L[j] := by simp [List.getD, h]
  rw [e]
  by_cases g : (ns.getD (L[j] - 1).toNat (0, 0)).1 < 0
  · rw [if_pos g]; simp only [List.filter_cons, decide_eq_true g]; rfl
  · rw [if_neg g]; simp only [List.filter_cons, decide_eq_false g]; rfl
theorem supF_len (ns : List (Int × Int)) (L : List Int) (j : Nat) : (supF ns (L.take j)).length ≤ j := by
  unfold supF
  exact Nat.le_trans (List.length_filter_le _ _) (List.length_take_le _ _)
/-- whether a node is an input -/
def inB (ns : List (Int × Int)) (i : Nat) : Bool := decide ((ns.getD i (0, 0)).1 < 0)
set_option maxRecDepth 100000 in
set_option maxHeartbeats 1600000 in
theorem refSupport_any (v u : Value) (ns : List (Int × Int)) (zs : List Int) (w : World) (hv : KNds (fun _ => False) w v ns) (hg : GoodN ns) (hn : ns.length ≤ 1000) (hu : Ints w u zs) (h64 : ∀ z ∈ zs, In64 z) (hl : zs.length ≤ 1000) :
    Calls Try.prog 13 #[v, u] w (Told (selTo (fun i => ofB (ns.map absN) zs i && inB ns i) ns.length) w) := by
  have HC : Hid (Calls Try.prog 11 #[v, u] (w.alloc (.cells #[] 3)) (Told (selTo (ofB (ns.map absN) zs) ns.length) (w.alloc (.cells #[] 3)))) := Lib.hid (
    have hb := (Below.refl w.heap.size w).alloc (Nat.le_refl _) (.cells #[] 3)
    refCones_any v u ns zs _ (hv.on hb) hg hn (Ints.on hu hb) h64 hl)
  have HSS := Lib.hid (sup_sel ns (ofB (ns.map absN) zs) ns.length)
  obtain ⟨f, hf⟩ : ∃ f, f = ofB (ns.map absN) zs := ⟨_, rfl⟩
  rw [← hf] at HC HSS ⊢
  clear hf hu h64 hl
  obtain ⟨i0, hi, hz0, hz1, hz2⟩ := info_parts infoI
  obtain ⟨a, cap, rfl, l1, l2⟩ := hv.form
  unfold maxLen at l2
  obtain ⟨m, hm⟩ : ∃ m, m = ns.length := ⟨_, rfl⟩
  rw [← hm] at l1 hn hv HC HSS ⊢
  have HV := Lib.hid hv
  have HM := Lib.hid hm
  have HG := Lib.hid hg
  have HB0 : Hid (Below w.heap.size w (w.alloc (.cells #[] 3))) := Lib.hid ((Below.refl _ _).alloc (Nat.le_refl _) _)
  have HR0 : Hid ((w.alloc (.cells #[] 3)).ownsRow w.heap.size 3 1 (.slice (some ⟨w.heap.size, 0, none⟩) 0 0) 0 []) := Lib.hid (World.ownsRow_made _ #[] 0 (Nat.le_refl _) (by unfold maxLen; omega) rfl)
  clear hv hm hg
  go_enter Try.func13, Try.ntmps13
  go_wp2_with fail
  go_at_call 11; refine HC.out.mono ?_; rintro e w1 ⟨ov, rfl, r1, b1⟩
  have HBA : Hid (Below w.heap.size w w1) := Lib.hid (HB0.out.trans (b1.mono HB0.out.size))
  have HR1 : Hid (w1.ownsRow w.heap.size 3 1 (.slice (some ⟨w.heap.size, 0, none⟩) 0 0) 0 []) := Lib.hid (own_on HR0.out b1)
  have HO : Hid (KInts (fun k => (Value.slice (some ⟨w.heap.size, 0, none⟩) 0 0).ownBlock = some k) w1 ov (selTo f m)) := Lib.hid (kints_of_row r1 (fun k hk => by
    have e : k = w.heap.size := by simpa [Value.ownBlock] using hk.symm
    rw [e]; simp))
  have HBD := Lib.hid (fun j => sel_bd (f := f) (k := m) (j := j))
  have HLEN := Lib.hid (sel_len f m)
  obtain ⟨S, hS⟩ : ∃ S, S = selTo f m := ⟨_, rfl⟩
  rw [← hS] at HO HBD HSS HLEN
  obtain ⟨oa, ocap, rfl, o3, o4, -⟩ := HO.out
  unfold maxLen at o4
  obtain ⟨n, hnn⟩ : ∃ n, n = S.length := ⟨_, rfl⟩
  rw [← hnn] at HO o3 HLEN ⊢
  have HNN := Lib.hid hnn
  clear r1 b1 hS hnn HB0 HR0 HC
  go_wp2_with fail
  go_loopw [5, 7] (fun l i wr => ∃ (k : Nat) (L : List Int) (lv : Value), k ≤ n ∧ i = .int .i64 k ∧ l = lv ∧ L.length ≤ k ∧ Hid (L = supF ns (S.take k)) ∧ Hid (wr.ownsRow w.heap.size 3 1 lv L.length (L.map (Value.int .i64)) ∧ Below w.heap.size w wr ∧ KInts (fun k => lv.ownBlock = some k) wr (.slice oa n ocap) S)) (fun _ i _ => n - (intOf i).toNat)
  case atStart => exact ⟨0, [], _, Nat.zero_le _, rfl, rfl, Nat.le_refl _, Lib.hid rfl, Lib.hid ⟨HR1.out, HBA.out, HO.out⟩⟩
  case round =>
    clear HR1 HBA
    obtain ⟨k, L, lv, hk, rfl, hlv, hL, HLI, HW⟩ := hrel
    obtain rfl : lv = _ := hlv.symm
    obtain ⟨wo, rfl⟩ : ∃ wo : World, wo = wr := ⟨_, rfl⟩
    have hn1 : n ≤ 1000 := by have := HLEN.out; omega
    by_cases hlt : k < n
    · obtain ⟨b, off, hoa, -, e1⟩ := HW.out.2.2.cell_ hlt
      subst hoa
      obtain ⟨s1, s2, -⟩ := HBD.out k (by rw [← HNN.out]; exact hlt)
      have HST := Lib.hid (supF_step ns (L := S) (j := k) (by rw [← HNN.out]; exact hlt))
      obtain ⟨z, hz⟩ : ∃ z, z = S.getD k 0 := ⟨_, rfl⟩
      rw [← hz] at e1 s1 s2 HST
      obtain ⟨y, hy⟩ : ∃ y : Nat, z = (y : Int) + 1 := ⟨(z - 1).toNat, by omega⟩
      subst hy
      have hym : y < m := by omega
      obtain ⟨nb, noff, rfl, -, e2, -⟩ := (HV.out.on HW.out.2.1).at_ hym
      rw [show (((y : Int) + 1) - 1).toNat = y by omega] at HST
      obtain ⟨p, hp⟩ : ∃ p, p = (ns.getD y (0, 0)).1 := ⟨_, rfl⟩
      rw [← hp] at e2 HST
      have d1 : (k : Int) < (n : Int) := by omega
      have d2 : 0 ≤ (k : Int) := by omega
      have d3 : (y : Int) < (m : Int) := by omega
      have d4 : 0 ≤ (y : Int) := by omega
      have d5 : IntKind.i64.wrap ((y : Int) + 1 - 1) = (y : Int) := by rw [show (y : Int) + 1 - 1 = (y : Int) by omega]; exact IntWalk.i64_in _ (by omega)
      have d6 : (y : Int) + 1 - 1 = (y : Int) := by omega
      have D5 := Lib.hid d5
      clear hz hp s1 s2 d5
      by_cases g0 : p < 0
      · have c1 : decide (p < 0) = true := decide_eq_true g0
        have HN : Hid (L ++ [(y : Int) + 1] = supF ns (S.take (k + 1))) := Lib.hid (by rw [HST.out, if_pos g0, HLI.out])
        obtain ⟨r, hr⟩ : ∃ r, r = (y : Int) + 1 := ⟨_, rfl⟩
        rw [← hr] at HN
        have HRR := Lib.hid hr
        have HRO := Lib.hid HW.out.1
        have HROW := Lib.hid (own_on HRO.out ((Below.refl _ wo).alloc (Nat.le_refl _) (.cells #[.int .i64 r] 3)))
        have HBW := Lib.hid HW.out.2.1
        have hsz := HBW.out.size
        clear g0 hr
        go_wp2_with (at_builtin; refine wpList_append_lies _ rfl (.tmp 28) (.tmp 33) 23 rfl w.heap.size 3 i0 (.int .i64 0) 1 8 Try.underlying23 hi hz0 hz1 hz2 rfl (by decide) lv L.length (L.map (Value.int .i64)) rfl (by rw [← HRR.out]; exact HROW.out) ⟨wo.heap.size, 0, none⟩ 1 1 [.int .i64 ((y : Int) + 1)] rfl rfl (news1 _ _ _) (one_cell _) (by omega) (by unfold maxLen; omega) (by omega) (by simp; omega) _ rfl ?_)
        intro t2 c2 w3 hown hgrow hat _
        have HE := Lib.hid (row_end HBW.out hsz HRO.out hown hgrow)
        have HMV := Lib.hid (moved_append hgrow (hat.imp id (fun e => by omega)))
        clear hown hgrow hat
        go_wp2_with fail
        have HEE : Hid (w3.ownsRow w.heap.size 3 1 (.slice (some ⟨t2, 0, none⟩) (L.length + 1) c2) (L ++ [(y : Int) + 1]).length ((L ++ [(y : Int) + 1]).map (Value.int .i64)) ∧ Below w.heap.size w w3 ∧ KInts (fun k => (Value.slice (some ⟨t2, 0, none⟩) (L.length + 1) c2).ownBlock = some k) w3 (.slice (some ⟨b, off, none⟩) n ocap) S) := Lib.hid ⟨HE.out.1, HE.out.2, by
          have h := HW.out.2.2.move HMV.out
          have e : (fun k => (Value.slice (some ⟨t2, 0, none⟩) (L.length + 1) c2).ownBlock = some k) = (fun k => t2 = k) := by funext k; simp [Value.ownBlock]
          rw [e]; exact h⟩
        go_roundw
        case rel => exact ⟨k + 1, L ++ [(y : Int) + 1], .slice (some ⟨t2, 0, none⟩) (L.length + 1) c2, by omega, by go_num, rfl, by simp; omega, by rw [← HRR.out]; exact HN, HEE⟩
        case measure => simp [intOf]; omega
      · have c1 : decide (p < 0) = false := decide_eq_false g0
        have HN : Hid (L = supF ns (S.take (k + 1))) := Lib.hid (by rw [HST.out, if_neg g0, List.append_nil, HLI.out])
        clear g0
        go_wp2_with fail
        go_roundw
        case rel => exact ⟨k + 1, L, lv, by omega, by go_num, rfl, by omega, HN, HW⟩
        case measure => simp [intOf]; omega
    · obtain rfl : n = k := by omega
      have HE : Hid (Told (selTo (fun i => f i && inB ns i) m) w (.returned lv) wo) := Lib.hid (by
        have e := HLI.out
        rw [HNN.out, List.take_length, HSS.out] at e
        have e2 : selTo (fun i => f i && inB ns i) m = L := e.symm
        rw [e2]; exact ⟨lv, rfl, HW.out.1, HW.out.2.1⟩)
      clear hlt hk
      go_wp2_with fail
      go_ret
      exact HE.out
/-- whether a node is a gate that has a variable -/
def fanB (ns : List (Int × Int)) (v i : Nat) : Bool := decide (0 ≤ (ns.getD i (0, 0)).1) && (decide ((ns.getD i (0, 0)).1.toNat / 2 = v) || decide ((ns.getD i (0, 0)).2.toNat / 2 = v))
theorem fanB_def (ns : List (Int × Int)) (v i : Nat) : fanB ns v i = (decide (0 ≤ (ns.getD i (0, 0)).1) && (decide ((ns.getD i (0, 0)).1.toNat / 2 = v) || decide ((ns.getD i (0, 0)).2.toNat / 2 = v))) := rfl
set_option maxRecDepth 100000 in
set_option maxHeartbeats 1600000 in
theorem refFanouts_any (P : Nat → Prop) (v : Value) (ns : List (Int × Int)) (x : Nat) (w : World) (hv : KNds P w v ns) (hg : GoodN ns) (hn : ns.length ≤ 1000) :
    Calls Try.prog 17 #[v, .int .i64 (x : Int)] w (Told (selTo (fanB ns x) ns.length) w) := by
  obtain ⟨i0, hi, hz0, hz1, hz2⟩ := info_parts infoI
  obtain ⟨a, cap, rfl, l1, l2⟩ := hv.form
  unfold maxLen at l2
  obtain ⟨m, hm⟩ : ∃ m, m = ns.length := ⟨_, rfl⟩
  rw [← hm] at l1 hn hv ⊢
  have HV := Lib.hid hv
  have HM := Lib.hid hm
  have HG := Lib.hid hg
  have HB0 : Hid (Below w.heap.size w (w.alloc (.cells #[] 3))) := Lib.hid ((Below.refl _ _).alloc (Nat.le_refl _) _)
  have HR0 : Hid ((w.alloc (.cells #[] 3)).ownsRow w.heap.size 3 1 (.slice (some ⟨w.heap.size, 0, none⟩) 0 0) 0 []) := Lib.hid (World.ownsRow_made _ #[] 0 (Nat.le_refl _) (by unfold maxLen; omega) rfl)
  obtain ⟨f, hf⟩ : ∃ f, f = fanB ns x := ⟨_, rfl⟩
  rw [← hf]
  have HF := Lib.hid hf
  clear hv hm hg hf
  go_enter Try.func17, Try.ntmps17
  go_wp2_with fail
  go_loopw [5, 6] (fun l i wr => ∃ (k : Nat) (L : List Int) (lv : Value), k ≤ m ∧ i = .int .i64 k ∧ l = lv ∧ L.length ≤ k ∧ Hid (L = selTo f k) ∧ Hid (wr.ownsRow w.heap.size 3 1 lv L.length (L.map (Value.int .i64)) ∧ Below w.heap.size w wr)) (fun _ i _ => m - (intOf i).toNat)
  case atStart => exact ⟨0, [], _, Nat.zero_le _, rfl, rfl, Nat.le_refl _, Lib.hid rfl, Lib.hid ⟨HR0.out, HB0.out⟩⟩
  case round =>
    clear HB0 HR0
    obtain ⟨k, L, lv, hk, rfl, hlv, hL, HLI, HW⟩ := hrel
    obtain rfl : lv = _ := hlv.symm
    obtain ⟨wo, rfl⟩ : ∃ wo : World, wo = wr := ⟨_, rfl⟩
    have HRO := Lib.hid HW.out.1
    have HBW := Lib.hid HW.out.2
    by_cases hlt : k < m
    · obtain ⟨b, off, rfl, -, e1, e2⟩ := (HV.out.on HW.out.2).at_ hlt
      have HD : Hid (f k = (decide (0 ≤ (ns.getD k (0, 0)).1) && (decide ((ns.getD k (0, 0)).1.toNat / 2 = x) || decide ((ns.getD k (0, 0)).2.toNat / 2 = x)))) := Lib.hid (by rw [HF.out]; rfl)
      have hgg := HG.out k (by rw [← HM.out]; exact hlt)
      obtain ⟨pq, hpq⟩ : ∃ pq, pq = ns.getD k (0, 0) := ⟨_, rfl⟩
      rw [← hpq] at e1 e2 HD hgg
      obtain ⟨p, q⟩ := pq
      simp only at e1 e2 HD hgg
      have d1 : (k : Int) < (m : Int) := by omega
      have d2 : 0 ≤ (k : Int) := by omega
      clear hpq
      by_cases g0 : p < 0
      · have c1 : decide (0 ≤ p) = false := by simp; omega
        have hfk : f k = false := by rw [HD.out, c1]; rfl
        clear g0 hgg
        have HN : Hid (L = selTo f (k + 1)) := Lib.hid (by rw [sel_no hfk, HLI.out])
        clear hfk
        go_wp2_with fail
        go_roundw
        case rel => exact ⟨k + 1, L, lv, by omega, by go_num, rfl, by omega, HN, Lib.hid ⟨HRO.out, HBW.out⟩⟩
        case measure => simp [intOf]; omega
      · have c1 : decide (0 ≤ p) = true := by simp; omega
        obtain ⟨g1, g2, g3⟩ := hgg (by omega)
        obtain ⟨y, rfl⟩ := Int.eq_ofNat_of_zero_le (show 0 ≤ p by omega)
        obtain ⟨z, rfl⟩ := Int.eq_ofNat_of_zero_le g2
        have hy2 : (y : Int) ≤ 2001 := by omega
        have hz2' : (z : Int) ≤ 2001 := by omega
        by_cases h1 : y / 2 = x
        · have c2 : ((y : Int) / 2 == (x : Int)) = true := by simp; omega
          have hfk : f k = true := by rw [HD.out, c1, decide_eq_true (show (y : Int).toNat / 2 = x by omega)]; rfl
          clear g0 hgg g1 g2 g3 h1
          have HN : Hid (L ++ [(k : Int) + 1] = selTo f (k + 1)) := Lib.hid (by rw [sel_yes hfk, HLI.out])
          obtain ⟨r, hr⟩ : ∃ r, r = (k : Int) + 1 := ⟨_, rfl⟩
          rw [← hr] at HN
          have HRR := Lib.hid hr
          have HROW := Lib.hid (own_on HRO.out ((Below.refl _ wo).alloc (Nat.le_refl _) (.cells #[.int .i64 r] 3)))
          have hsz := HBW.out.size
          clear hr hfk
          go_wp2_with (at_builtin; refine wpList_append_lies _ rfl (.tmp 40) (.tmp 43) 23 rfl w.heap.size 3 i0 (.int .i64 0) 1 8 Try.underlying23 hi hz0 hz1 hz2 rfl (by decide) lv L.length (L.map (Value.int .i64)) rfl (by rw [← HRR.out]; exact HROW.out) ⟨wo.heap.size, 0, none⟩ 1 1 [.int .i64 ((k : Int) + 1)] rfl rfl (news1 _ _ _) (one_cell _) (by omega) (by unfold maxLen; omega) (by omega) (by simp; omega) _ rfl ?_)
          intro t2 c2 w3 hown hgrow hat _
          have HE := Lib.hid (row_end HBW.out hsz HRO.out hown hgrow)
          have HMV := Lib.hid (moved_append hgrow (hat.imp id (fun e => by omega)))
          clear hown hgrow hat
          go_wp2_with fail
          go_roundw
          case rel => exact ⟨k + 1, L ++ [(k : Int) + 1], .slice (some ⟨t2, 0, none⟩) (L.length + 1) c2, by omega, by go_num, rfl, by simp; omega, by rw [← HRR.out]; exact HN, HE⟩
          case measure => simp [intOf]; omega
        · have c2 : ((y : Int) / 2 == (x : Int)) = false := by simp; omega
          by_cases h2 : z / 2 = x
          · have c3 : ((z : Int) / 2 == (x : Int)) = true := by simp; omega
            have hfk : f k = true := by rw [HD.out, c1, decide_eq_true (show (z : Int).toNat / 2 = x by omega)]; simp
            clear g0 hgg g1 g2 g3 h1 h2
            have HN : Hid (L ++ [(k : Int) + 1] = selTo f (k + 1)) := Lib.hid (by rw [sel_yes hfk, HLI.out])
            obtain ⟨r, hr⟩ : ∃ r, r = (k : Int) + 1 := ⟨_, rfl⟩
            rw [← hr] at HN
            have HRR := Lib.hid hr
            have HROW := Lib.hid (own_on HRO.out ((Below.refl _ wo).alloc (Nat.le_refl _) (.cells #[.int .i64 r] 3)))
            have hsz := HBW.out.size
            clear hr hfk
            go_wp2_with (at_builtin; refine wpList_append_lies _ rfl (.tmp 40) (.tmp 43) 23 rfl w.heap.size 3 i0 (.int .i64 0) 1 8 Try.underlying23 hi hz0 hz1 hz2 rfl (by decide) lv L.length (L.map (Value.int .i64)) rfl (by rw [← HRR.out]; exact HROW.out) ⟨wo.heap.size, 0, none⟩ 1 1 [.int .i64 ((k : Int) + 1)] rfl rfl (news1 _ _ _) (one_cell _) (by omega) (by unfold maxLen; omega) (by omega) (by simp; omega) _ rfl ?_)
            intro t2 c2 w3 hown hgrow hat _
            have HE := Lib.hid (row_end HBW.out hsz HRO.out hown hgrow)
            have HMV := Lib.hid (moved_append hgrow (hat.imp id (fun e => by omega)))
            clear hown hgrow hat
            go_wp2_with fail
            go_roundw
            case rel => exact ⟨k + 1, L ++ [(k : Int) + 1], .slice (some ⟨t2, 0, none⟩) (L.length + 1) c2, by omega, by go_num, rfl, by simp; omega, by rw [← HRR.out]; exact HN, HE⟩
            case measure => simp [intOf]; omega
          · have c3 : ((z : Int) / 2 == (x : Int)) = false := by simp; omega
            have hfk : f k = false := by rw [HD.out, decide_eq_false (show ¬ (z : Int).toNat / 2 = x by omega), decide_eq_false (show ¬ (y : Int).toNat / 2 = x by omega)]; simp
            clear g0 hgg g1 g2 g3 h1 h2
            have HN : Hid (L = selTo f (k + 1)) := Lib.hid (by rw [sel_no hfk, HLI.out])
            clear hfk
            go_wp2_with fail
            go_roundw
            case rel => exact ⟨k + 1, L, lv, by omega, by go_num, rfl, by omega, HN, Lib.hid ⟨HRO.out, HBW.out⟩⟩
            case measure => simp [intOf]; omega
    · obtain rfl : m = k := by omega
      have HE : Hid (Told (selTo f m) w (.returned lv) wo) := Lib.hid (by rw [← HLI.out]; exact ⟨lv, rfl, HW.out.1, HW.out.2⟩)
      clear hlt hk
      go_wp2_with fail
      go_ret
      exact HE.out
/-- whether a variable hangs on another one -/
def aboveB (N : Net) (x : Int) (i : Nat) : Bool := hangsB N (2 * ((i : Int) + 1)) x
set_option maxRecDepth 100000 in
set_option maxHeartbeats 1600000 in
theorem refAbove_any (P : Nat → Prop) (v : Value) (ns : List (Int × Int)) (x : Int) (w : World) (hv : KNds P w v ns) (hg : GoodN ns) (hn : ns.length ≤ 1000) :
    Calls Try.prog 19 #[v, .int .i64 x] w (Told (selTo (aboveB (ns.map absN) x) ns.length) w) := by
  obtain ⟨i0, hi, hz0, hz1, hz2⟩ := info_parts infoI
  obtain ⟨a, cap, rfl, l1, l2⟩ := hv.form
  unfold maxLen at l2
  obtain ⟨m, hm⟩ : ∃ m, m = ns.length := ⟨_, rfl⟩
  rw [← hm] at l1 hn hv ⊢
  have HV := Lib.hid hv
  have HM := Lib.hid hm
  have HG := Lib.hid hg
  have HB0 : Hid (Below w.heap.size w (w.alloc (.cells #[] 3))) := Lib.hid ((Below.refl _ _).alloc (Nat.le_refl _) _)
  have HR0 : Hid ((w.alloc (.cells #[] 3)).ownsRow w.heap.size 3 1 (.slice (some ⟨w.heap.size, 0, none⟩) 0 0) 0 []) := Lib.hid (World.ownsRow_made _ #[] 0 (Nat.le_refl _) (by unfold maxLen; omega) rfl)
  obtain ⟨f, hf⟩ : ∃ f, f = aboveB (ns.map absN) x := ⟨_, rfl⟩
  rw [← hf]
  have HF := Lib.hid hf
  clear hv hm hg hf
  go_enter Try.func19, Try.ntmps19
  go_wp2_with fail
  go_loopw [5, 6] (fun l i wr => ∃ (k : Nat) (L : List Int) (lv : Value), k ≤ m ∧ i = .int .i64 ((k : Int) + 1) ∧ l = lv ∧ L.length ≤ k ∧ Hid (L = selTo f k) ∧ Hid (wr.ownsRow w.heap.size 3 1 lv L.length (L.map (Value.int .i64)) ∧ Below w.heap.size w wr)) (fun _ i _ => m + 1 - (intOf i).toNat)
  case atStart => exact ⟨0, [], _, Nat.zero_le _, by go_num, rfl, Nat.le_refl _, Lib.hid rfl, Lib.hid ⟨HR0.out, HB0.out⟩⟩
  case round =>
    clear HB0 HR0
    obtain ⟨k, L, lv, hk, rfl, hlv, hL, HLI, HW⟩ := hrel
    obtain rfl : lv = _ := hlv.symm
    obtain ⟨wo, rfl⟩ : ∃ wo : World, wo = wr := ⟨_, rfl⟩
    by_cases hlt : k < m
    · have d1 : decide ((k : Int) + 1 ≤ (m : Int)) = true := by simp; omega
      have d2 : 0 ≤ (k : Int) := by omega
      have hwz := HW.out.2.size
      have HC := Lib.hid (refHangs_any P _ ns (2 * ((k : Int) + 1)) x wo (HV.out.on HW.out.2) HG.out (by rw [← HM.out]; exact hn) (by unfold In64; omega))
      have HD : Hid (f k = hangsB (ns.map absN) (2 * ((k : Int) + 1)) x) := Lib.hid (by rw [HF.out]; rfl)
      go_wp2_with fail
      go_at_call 27; refine HC.out.mono ?_; rintro e w2 ⟨rfl, hb⟩
      have HRO := Lib.hid (own_on HW.out.1 hb)
      have HBW := Lib.hid (HW.out.2.trans (hb.mono hwz))
      clear hb
      rw [← HD.out]
      cases hfk : f k with
      | true =>
        have HN : Hid (L ++ [(k : Int) + 1] = selTo f (k + 1)) := Lib.hid (by rw [sel_yes hfk, HLI.out])
        obtain ⟨r, hr⟩ : ∃ r, r = (k : Int) + 1 := ⟨_, rfl⟩
        rw [← hr] at HN
        have HRR := Lib.hid hr
        have HROW := Lib.hid (own_on HRO.out ((Below.refl _ w2).alloc (Nat.le_refl _) (.cells #[.int .i64 r] 3)))
        have hsz := HBW.out.size
        clear hr hfk
        go_wp2_with (at_builtin; refine wpList_append_lies _ rfl (.tmp 19) (.tmp 21) 23 rfl w.heap.size 3 i0 (.int .i64 0) 1 8 Try.underlying23 hi hz0 hz1 hz2 rfl (by decide) lv L.length (L.map (Value.int .i64)) rfl (by rw [← HRR.out]; exact HROW.out) ⟨w2.heap.size, 0, none⟩ 1 1 [.int .i64 ((k : Int) + 1)] rfl rfl (news1 _ _ _) (one_cell _) (by omega) (by unfold maxLen; omega) (by omega) (by simp; omega) _ rfl ?_)
        intro t2 c2 w3 hown hgrow hat _
        have HE := Lib.hid (row_end HBW.out hsz HRO.out hown hgrow)
        have HMV := Lib.hid (moved_append hgrow (hat.imp id (fun e => by omega)))
        clear hown hgrow hat
        go_wp2_with fail
        go_roundw
        case rel => exact ⟨k + 1, L ++ [(k : Int) + 1], .slice (some ⟨t2, 0, none⟩) (L.length + 1) c2, by omega, by go_num, rfl, by simp; omega, by rw [← HRR.out]; exact HN, HE⟩
        case measure => simp [intOf]; omega
      | false =>
        have HN : Hid (L = selTo f (k + 1)) := Lib.hid (by rw [sel_no hfk, HLI.out])
        clear hfk
        go_wp2_with fail
        go_roundw
        case rel => exact ⟨k + 1, L, lv, by omega, by go_num, rfl, by omega, HN, Lib.hid ⟨HRO.out, HBW.out⟩⟩
        case measure => simp [intOf]; omega
    · obtain rfl : m = k := by omega
      have d1 : decide ((m : Int) + 1 ≤ (m : Int)) = false := by simp; omega
      have HE : Hid (Told (selTo f m) w (.returned lv) wo) := Lib.hid (by rw [← HLI.out]; exact ⟨lv, rfl, HW.out.1, HW.out.2⟩)
      clear hlt hk
      go_wp2_with fail
      go_ret
      exact HE.out
end Go.Proofs.Ytbdmndhjbemenaa.aig
