/- The walk of the document's Cut. -/
import Derived.Test.YtbdmndhjbemenaaC3
import Derived.Deep.RegionHeld3
namespace Go.Proofs.Ytbdmndhjbemenaa.aig
open Go.RowKit
open Go.Proofs.Ytbdmndhjbemenaa.mem Go.Proofs.Ytbdmndhjbemenaa.agf Go.Proofs.Ytbdmndhjbemenaa.ints

theorem sel_pre (f : Nat → Bool) {i m : Nat} (h : i ≤ m) : ∃ r, selTo f m = selTo f i ++ r ∧ ∀ z ∈ r, (i : Int) + 1 ≤ z := by
  induction m with
  | zero =>
    obtain rfl : i = 0 := by omega
    exact ⟨[], by simp, fun z hz => by simp at hz⟩
  | succ m ih =>
    by_cases e : i = m + 1
    · rw [e]; exact ⟨[], by simp, fun z hz => by simp at hz⟩
    · obtain ⟨r, hr, hz⟩ := ih (by omega)
      cases hf : f m with
      | true =>
        refine ⟨r ++ [(m : Int) + 1], by rw [sel_yes hf, hr, List.append_assoc], fun z hz' => ?_⟩
        rcases List.mem_append.1 hz' with h1 | h1
        · exact hz z h1
        · have : z = (m : Int) + 1 := by simpa using h1
          omega
      | false => exact ⟨r, by rw [sel_no hf, hr], hz⟩
theorem sel_le (f : Nat → Bool) {i m : Nat} (h : i ≤ m) : (selTo f i).length ≤ (selTo f m).length := by
  obtain ⟨r, hr, -⟩ := sel_pre f h
  rw [hr, List.length_append]; omega
theorem _root_.Go.Proofs.Ytbdmndhjbemenaa.agf.CutOk.pl {N : Net} {S : Nat → Bool} {k : Nat} {M : Net} {at_ : List Int} (c : CutOk N S k M at_) {a : Nat} (ha : a / 2 ≤ k) (hs : 1 ≤ a / 2 → S (a / 2 - 1) = true) : 0 ≤ at_.getD (a / 2) 0 ∧ at_.getD (a / 2) 0 % 2 = 0 ∧ at_.getD (a / 2) 0 ≤ 2 * (M.length : Int) + 1 := by
  by_cases e : a / 2 = 0
  · rw [e, c.zero]; omega
  · have := c.yes (a / 2) (by omega) ha (hs (by omega)); omega
/-- the next variable that f takes -/
theorem sel_next {f : Nat → Bool} {i m : Nat} (h : i < m) :
    (f i = true → (selTo f i).length < (selTo f m).length ∧ (selTo f m).getD (selTo f i).length 0 = (i : Int) + 1) ∧
    (f i = false → (selTo f i).length < (selTo f m).length → (selTo f m).getD (selTo f i).length 0 ≠ (i : Int) + 1) := by
  obtain ⟨r, hr, hz⟩ := sel_pre f (i := i + 1) (m := m) (by omega)
  refine ⟨fun hf => ?_, fun hf hl => ?_⟩
  · rw [sel_yes hf] at hr
    rw [hr]
    refine ⟨by simp, ?_⟩
    simp [List.getD]
  · rw [sel_no hf] at hr
    rw [hr] at hl ⊢
    cases r with
    | nil => simp at hl
    | cons z r =>
      have := hz z (by simp)
      simp [List.getD]
      push_cast at this
      omega
/-- two rows of one's own, of nodes and of ints, beside a list -/
structure CW (w wr : World) (ov av : Value) (M : Net) (L : List Int) (sv : Value) (S : List Int) : Prop where
  o : wr.ownsRow w.heap.size 37 2 ov M.length (nodeCells (M.map conc))
  a : wr.ownsRow w.heap.size 3 1 av L.length (L.map (Value.int .i64))
  ap : ∀ k, ov.ownBlock = some k → av.ownBlock ≠ some k
  b : Below w.heap.size w wr
  s : KInts (fun k => ov.ownBlock = some k ∨ av.ownBlock = some k) wr sv S
theorem moved_or {P P' Q : Nat → Prop} {w w' : World} (m : Moved P P' w w') (hs : ∀ k, k < w.heap.size → P k → P k) : Moved (fun k => Q k ∨ P k) (fun k => Q k ∨ P' k) w w' :=
  ⟨⟨m.only.os, m.only.tape, m.only.output, m.only.size, fun k hk hn => m.only.block k hk (fun h => hn (.inr (hs k hk h)))⟩, fun k hk => by
    rcases hk with h | h
    · exact .inl (.inl h)
    · rcases m.own k h with e | e
      · exact .inl (.inr e)
      · exact .inr e⟩
theorem moved_or' {P P' Q : Nat → Prop} {w w' : World} (m : Moved P P' w w') : Moved (fun k => P k ∨ Q k) (fun k => P' k ∨ Q k) w w' :=
  ⟨⟨m.only.os, m.only.tape, m.only.output, m.only.size, fun k hk hn => m.only.block k hk (fun h => hn (.inl h))⟩, fun k hk => by
    rcases hk with h | h
    · rcases m.own k h with e | e
      · exact .inl (.inl e)
      · exact .inr e
    · exact .inl (.inr h)⟩
section
variable {w wr wr' : World} {ov av sv : Value} {M : Net} {L S : List Int}
theorem CW.on (c : CW w wr ov av M L sv S) (hb : Below wr.heap.size wr wr') : CW w wr' ov av M L sv S :=
  ⟨own_on c.o hb, own_on c.a hb, c.ap, c.b.trans (hb.mono c.b.size), c.s.move (moved_of_below hb)⟩
theorem own_kept {v v2 : Value} {w w1 w3 : World} {B n size : Nat} {e : TypeId} {xs : List Value} (h : w.ownsRow B e size v n xs) (hb : Below w.heap.size w w1) (hg : w1.grownBy w3 v2.ownBlock) (hne : ∀ k, v.ownBlock = some k → v2.ownBlock ≠ some k) : w3.ownsRow B e size v n xs :=
  (own_on h hb).kept hg (by
    cases hv : v.ownBlock with
    | none => exact .inl rfl
    | some k => exact .inr (fun e => hne k hv e.symm))
theorem CW.addA {t c2 : Nat} {r : Int} {w3 : World} {o : Obj} (c : CW w wr ov av M L sv S) (hown : w3.ownsRow w.heap.size 3 1 (.slice (some ⟨t, 0, none⟩) (L.length + 1) c2) (L.length + 1) (L.map (Value.int .i64) ++ [.int .i64 r]))
    (hg : (wr.alloc o).grownBy w3 av.ownBlock) (hat : av.ownBlock = some t ∨ wr.heap.size ≤ t) : CW w w3 ov (.slice (some ⟨t, 0, none⟩) (L.length + 1) c2) M (L ++ [r]) sv S := by
  have ha : Below wr.heap.size wr (wr.alloc o) := (Below.refl _ _).alloc (Nat.le_refl _) _
  have hz := c.b.size
  refine ⟨own_kept c.o ha hg c.ap, ?_, fun k hk e => ?_, (c.b.trans (ha.mono hz)).grown hg (by simp; omega) (fun k hk => (c.a.lt k hk).1), ?_⟩
  · rw [map_snocI] at hown
    rw [List.length_append, List.length_singleton]; exact hown
  · have e1 : k = t := by simpa [Value.ownBlock] using e.symm
    subst e1
    rcases hat with e2 | e2
    · exact c.ap k hk e2
    · have := (c.o.lt k hk).2; omega
  · exact c.s.move (moved_or (moved_append hg hat) (fun _ _ h => h) |> fun m => ⟨m.only, fun k hk => m.own k (by
      rcases hk with h | h
      · exact .inl h
      · exact .inr (by simpa [Value.ownBlock] using h))⟩)
theorem CW.addO {t c2 : Nat} {x : Nd} {w3 : World} {o : Obj} (c : CW w wr ov av M L sv S) (hown : w3.ownsRow w.heap.size 37 2 (.slice (some ⟨t, 0, none⟩) (M.length + 1) c2) (M.length + 1) (nodeCells (M.map conc) ++ [.int .i64 (conc x).1, .int .i64 (conc x).2]))
    (hg : (wr.alloc o).grownBy w3 ov.ownBlock) (hat : ov.ownBlock = some t ∨ wr.heap.size ≤ t) : CW w w3 (.slice (some ⟨t, 0, none⟩) (M.length + 1) c2) av (M ++ [x]) L sv S := by
  have ha : Below wr.heap.size wr (wr.alloc o) := (Below.refl _ _).alloc (Nat.le_refl _) _
  have hz := c.b.size
  refine ⟨?_, own_kept c.a ha hg (fun k hk e => c.ap k e hk), fun k hk e => ?_, (c.b.trans (ha.mono hz)).grown hg (by simp; omega) (fun k hk => (c.o.lt k hk).1), ?_⟩
  · rw [nodeCells_snoc] at hown
    rw [List.length_append, List.length_singleton, List.map_append]; exact hown
  · have e1 : k = t := by simpa [Value.ownBlock] using hk.symm
    subst e1
    rcases hat with e2 | e2
    · exact c.ap k e2 e
    · have := (c.a.lt k e).2; omega
  · exact c.s.move (moved_or' (Q := fun k => av.ownBlock = some k) (moved_append hg hat) |> fun m => ⟨m.only, fun k hk => m.own k (by
      rcases hk with h | h
      · exact .inl (by simpa [Value.ownBlock] using h)
      · exact .inr h)⟩)
end
theorem pair_cell8 (a b : Int) : ∀ u ∈ ([.int .i64 a, .int .i64 b] : List Value), u.oneCell' = true := by
  intro u hu; simp at hu; rcases hu with rfl | rfl <;> rfl
theorem news_pair (w : World) (a b : Int) (t : TypeId) : ∀ j u, ([.int .i64 a, .int .i64 b] : List Value)[j]? = some u → (w.alloc (.cells #[.int .i64 a, .int .i64 b] t)).cell? ((⟨w.heap.size, 0, none⟩ : Addr).add j) = some u := by
  intro j u hj
  match j, hj with
  | 0, hj => simp at hj; subst hj; simp [Addr.add]
  | 1, hj => simp at hj; subst hj; simp [Addr.add]
/-- how Cut tells -/
def CutTold (r : Net × List Int) (w : World) (e : Ending) (w' : World) : Prop :=
  ∃ ov av, e = .returned (.tuple #[ov, av]) ∧ w'.ownsRow w.heap.size 37 2 ov r.1.length (nodeCells (r.1.map conc)) ∧ w'.ownsRow w.heap.size 3 1 av r.2.length (r.2.map (Value.int .i64)) ∧ Below w.heap.size w w'
theorem cut_yes {N : Net} {f : Nat → Bool} {k : Nat} (h : f k = true) : cutTo N f (k + 1) = ((cutTo N f k).1 ++ [match N[k]? with | some (some (a, b)) => some ((litAt (cutTo N f k).2 a).toNat, (litAt (cutTo N f k).2 b).toNat) | _ => none], (cutTo N f k).2 ++ [2 * (((cutTo N f k).1.length : Int) + 1)]) := by
  show cutStep N f (cutTo N f k) k = _
  unfold cutStep; rw [h]; rfl
theorem cut_no {N : Net} {f : Nat → Bool} {k : Nat} (h : f k = false) : cutTo N f (k + 1) = ((cutTo N f k).1, (cutTo N f k).2 ++ [-1]) := by
  show cutStep N f (cutTo N f k) k = _
  unfold cutStep; rw [h]; rfl
set_option maxRecDepth 100000 in
set_option maxHeartbeats 3200000 in
theorem refCut_any (v u : Value) (ns : List (Int × Int)) (zs : List Int) (w : World) (hv : KNds (fun _ => False) w v ns) (hg : GoodN ns) (hn : ns.length ≤ 1000) (hu : Ints w u zs) (h64 : ∀ z ∈ zs, In64 z) (hl : zs.length ≤ 1000) :
    Calls Try.prog 21 #[v, u] w (CutTold (cutTo (ns.map absN) (ofB (ns.map absN) zs) ns.length) w) := by
  have hb2 : Below w.heap.size w ((w.alloc (.cells #[] 37)).alloc (.cells #[.int .i64 0] 3)) := ((Below.refl _ w).alloc (Nat.le_refl _) _).alloc (by simp) _
  have HC := Lib.hid (refCones_any v u ns zs _ (hv.on hb2) hg hn (Ints.on hu hb2) h64 hl)
  have HOK := Lib.hid (cut_ok (good_abs hg) (S := ofB (ns.map absN) zs) (fun i a b e h => of_down (good_abs hg) h e))
  rw [List.length_map] at HOK
  have HR1 : Hid (((w.alloc (.cells #[] 37)).alloc (.cells #[.int .i64 0] 3)).ownsRow w.heap.size 37 2 (.slice (some ⟨w.heap.size, 0, none⟩) 0 0) 0 []) := Lib.hid
    (own_on (World.ownsRow_made (w := w) (e := 37) (size := 2) (base := w.heap.size) #[] 0 (Nat.le_refl _) (by unfold maxLen; omega) rfl) ((Below.refl _ _).alloc (Nat.le_refl _) _))
  have HR2 : Hid (((w.alloc (.cells #[] 37)).alloc (.cells #[.int .i64 0] 3)).ownsRow w.heap.size 3 1 (.slice (some ⟨w.heap.size + 1, 0, none⟩) 1 1) 1 [.int .i64 0]) := Lib.hid (by
    have h := World.ownsRow_lit (base := w.heap.size) (e := 3) (size := 1) (w.alloc (.cells #[] 37)) #[.int .i64 0] 1 (by simp) (by unfold maxLen; omega) rfl
    simpa using h)
  have HB2 := Lib.hid hb2
  have HDN := Lib.hid (fun i x y (h : ofB (ns.map absN) zs i = true) (e : (ns.map absN)[i]? = some (some (x, y))) => of_down (good_abs hg) h e)
  obtain ⟨f, hf⟩ : ∃ f, f = ofB (ns.map absN) zs := ⟨_, rfl⟩
  rw [← hf] at HC HOK HDN ⊢
  obtain ⟨i0, hi, hz0, hz1, hz2⟩ := info_parts infoI
  obtain ⟨j0, hj, hy0, hy1, hy2⟩ := info_parts infoN
  obtain ⟨a, cap, rfl, l1, l2⟩ := hv.form
  unfold maxLen at l2
  obtain ⟨m, hm⟩ : ∃ m, m = ns.length := ⟨_, rfl⟩
  rw [← hm] at l1 hn hv HC HOK ⊢
  have HV := Lib.hid hv
  have HM := Lib.hid hm
  have HG := Lib.hid hg
  clear hv hm hg hf hu h64 hl hb2
  go_enter Try.func21, Try.ntmps21
  go_wp2_with fail
  obtain ⟨W0, hW0⟩ : ∃ W0, W0 = (w.alloc (.cells #[] 37)).alloc (.cells #[.int .i64 0] 3) := ⟨_, rfl⟩
  rw [← hW0] at HC HR1 HR2 HB2 ⊢
  have hW0s : W0.heap.size = w.heap.size + 2 := by rw [hW0]; simp
  clear hW0
  go_at_call 11; refine HC.out.mono ?_; rintro e w1 ⟨sv, rfl, r1, b1⟩
  have HCW : Hid (CW w w1 (.slice (some ⟨w.heap.size, 0, none⟩) 0 0) (.slice (some ⟨w.heap.size + 1, 0, none⟩) 1 1) [] [0] sv (selTo f m)) := Lib.hid ⟨own_on HR1.out b1, own_on HR2.out b1, fun k hk e => by
    simp [Value.ownBlock] at hk e; omega, HB2.out.trans (b1.mono HB2.out.size), kints_of_row r1 (fun k hk => by
    rcases hk with h | h <;> simp [Value.ownBlock] at h <;> omega)⟩
  have HLEN := Lib.hid (sel_len f m)
  have HSN := Lib.hid (fun i => sel_next (f := f) (i := i) (m := m))
  have HLE := Lib.hid (fun i (h : i ≤ m) => sel_le f h)
  obtain ⟨S, hS⟩ : ∃ S, S = selTo f m := ⟨_, rfl⟩
  rw [← hS] at HCW HSN HLEN HLE
  obtain ⟨sa, scap, rfl, s3, s4, -⟩ := HCW.out.s
  unfold maxLen at s4
  obtain ⟨n, hnn⟩ : ∃ n, n = S.length := ⟨_, rfl⟩
  rw [← hnn] at HCW s3 HLEN HSN HLE ⊢
  clear r1 b1 hS hnn HR1 HR2 HB2 HC hW0s
  go_wp2_with fail
  go_loopw [6, 7, 9, 10] (fun o l kv i wr => ∃ (k : Nat) (M : Net) (L : List Int) (ov av : Value), k ≤ m ∧ i = .int .i64 ((k : Int) + 1) ∧ o = ov ∧ l = av ∧ kv = .int .i64 ((selTo f k).length : Int) ∧ Hid (cutTo (ns.map absN) f k = (M, L)) ∧ Hid (CW w wr ov av M L (.slice sa n scap) S)) (fun _ _ _ i _ => m + 1 - (intOf i).toNat)
  case atStart => exact ⟨0, [], [0], _, _, Nat.zero_le _, by go_num, rfl, rfl, rfl, Lib.hid rfl, HCW⟩
  case round =>
    clear HCW
    obtain ⟨k, M, L, ov, av, hk, rfl, hov, hav, rfl, HCT, HW⟩ := hrel
    obtain rfl : ov = _ := hov.symm
    obtain rfl : av = _ := hav.symm
    obtain ⟨wo, rfl⟩ : ∃ wo : World, wo = wr := ⟨_, rfl⟩
    by_cases hlt : k < m
    · have d0 : decide ((k : Int) + 1 ≤ (m : Int)) = true := by simp; omega
      have d2 : 0 ≤ (k : Int) := by omega
      have HN := Lib.hid (HSN.out k hlt)
      have hcl := sel_len f k
      have hce := HLE.out k hk
      have HC1 := Lib.hid (fun h => cut_no (N := ns.map absN) (f := f) (k := k) h)
      have HC2 := Lib.hid (fun h => cut_yes (N := ns.map absN) (f := f) (k := k) h)
      have HK := Lib.hid (HOK.out k hk)
      rw [HCT.out] at HC1 HC2 HK
      simp only at HC1 HC2 HK
      have HS1 : Hid (f k = true → (selTo f (k + 1)).length = (selTo f k).length + 1) := Lib.hid (fun h => by rw [sel_yes h]; simp)
      have HS2 : Hid (f k = false → (selTo f (k + 1)).length = (selTo f k).length) := Lib.hid (fun h => by rw [sel_no h])
      obtain ⟨c, hc⟩ : ∃ c, c = (selTo f k).length := ⟨_, rfl⟩
      rw [← hc] at HN hcl HS1 HS2 hce ⊢
      have hcl2 : c ≤ 1000 := by omega
      have hsz := HW.out.b.size
      clear hc hcl
      cases hfk : f k with
      | false =>
        have HF := Lib.hid (HC1.out hfk)
        have HSL := Lib.hid (HS2.out hfk)
        have HROW := Lib.hid (own_on HW.out.a ((Below.refl _ wo).alloc (Nat.le_refl _) (.cells #[.int .i64 (-1)] 3)))
        have hLL : L.length ≤ 1001 := by have := HK.out.len; omega
        by_cases hcn : c < n
        · obtain ⟨b, off, hsa, -, e1⟩ := HW.out.s.cell_ hcn
          subst hsa
          have hne := HN.out.2 hfk hcn
          obtain ⟨z, hz⟩ : ∃ z, z = S.getD c 0 := ⟨_, rfl⟩
          rw [← hz] at e1 hne
          have c1 : ((c : Int) == (n : Int)) = false := by simp; omega
          have c1' : (c == n) = false := by simp; omega
          have c2 : (z != (k : Int) + 1) = true := by simpa using hne
          have d3 : (c : Int) < (n : Int) := by omega
          have d4 : 0 ≤ (c : Int) := by omega
          clear hz hne hfk
          go_wp2_with (at_builtin; refine wpList_append_lies _ rfl (.tmp 35) (.tmp 36) 23 rfl w.heap.size 3 i0 (.int .i64 0) 1 8 Try.underlying23 hi hz0 hz1 hz2 rfl (by decide) av L.length (L.map (Value.int .i64)) rfl HROW.out ⟨wo.heap.size, 0, none⟩ 1 1 [.int .i64 (-1)] rfl rfl (news1 _ _ _) (one_cell _) (by omega) (by unfold maxLen; omega) (by omega) (by simp; omega) _ rfl ?_)
          intro t2 c2 w9 hown hgrow hat _
          have HE := Lib.hid (CW.addA HW.out hown hgrow (hat.imp id (fun e => by omega)))
          clear hown hgrow hat
          go_wp2_with fail
          go_roundw
          case rel => exact ⟨k + 1, M, L ++ [(-1)], ov, .slice (some ⟨t2, 0, none⟩) (L.length + 1) c2, by omega, by go_num, rfl, rfl, by rw [HSL.out], HF, HE⟩
          case measure => simp [intOf]; omega
        · have c1 : ((c : Int) == (n : Int)) = true := by simp; omega
          have c1' : (c == n) = true := by simp; omega
          clear hfk
          go_wp2_with (at_builtin; refine wpList_append_lies _ rfl (.tmp 35) (.tmp 36) 23 rfl w.heap.size 3 i0 (.int .i64 0) 1 8 Try.underlying23 hi hz0 hz1 hz2 rfl (by decide) av L.length (L.map (Value.int .i64)) rfl HROW.out ⟨wo.heap.size, 0, none⟩ 1 1 [.int .i64 (-1)] rfl rfl (news1 _ _ _) (one_cell _) (by omega) (by unfold maxLen; omega) (by omega) (by simp; omega) _ rfl ?_)
          intro t2 c2 w9 hown hgrow hat _
          have HE := Lib.hid (CW.addA HW.out hown hgrow (hat.imp id (fun e => by omega)))
          clear hown hgrow hat
          go_wp2_with fail
          go_roundw
          case rel => exact ⟨k + 1, M, L ++ [(-1)], ov, .slice (some ⟨t2, 0, none⟩) (L.length + 1) c2, by omega, by go_num, rfl, rfl, by rw [HSL.out], HF, HE⟩
          case measure => simp [intOf]; omega
      | true =>
        obtain ⟨hcn, hz⟩ := HN.out.1 hfk
        obtain ⟨b, off, hsa, -, e1⟩ := HW.out.s.cell_ hcn
        subst hsa
        rw [hz] at e1
        have HF0 := Lib.hid (HC2.out hfk)
        have HSL := Lib.hid (HS1.out hfk)
        have c1 : ((c : Int) == (n : Int)) = false := by simp; omega
        have c1' : (c == n) = false := by simp; omega
        have c2 : ((k : Int) + 1 != (k : Int) + 1) = false := by simp
        have d3 : (c : Int) < (n : Int) := by omega
        have d4 : 0 ≤ (c : Int) := by omega
        have hLL : L.length ≤ 1001 := by have := HK.out.len; omega
        have hMM : M.length ≤ 1000 := by have := HK.out.few; omega
        obtain ⟨nb, noff, hna, hnbl, e2, e3⟩ := (HV.out.on HW.out.b).at_ hlt
        subst hna
        have HAT := Lib.hid (absN_at (ns := ns) (k := k) (by rw [← HM.out]; exact hlt))
        have hgg := HG.out k (by rw [← HM.out]; exact hlt)
        have HDK := Lib.hid (fun x y => HDN.out k x y hfk)
        obtain ⟨pq, hpq⟩ : ∃ pq, pq = ns.getD k (0, 0) := ⟨_, rfl⟩
        rw [← hpq] at e2 e3 HAT hgg
        obtain ⟨p, q⟩ := pq
        simp only at e2 e3 hgg
        have d5 : (k : Int) < (m : Int) := by omega
        have d6 : (k : Int) + 1 - 1 = (k : Int) := by omega
        clear hz hpq hfk
        go_upto_region 10 with fail
        obtain ⟨W1, hW1⟩ : ∃ W1, W1 = wo.alloc (.cells #[.int .i64 (-1), .int .i64 0] 37) := ⟨_, rfl⟩
        obtain ⟨X, hX⟩ : ∃ X, X = wo.heap.size := ⟨_, rfl⟩
        have x0 : W1.cell? ⟨X, 0, none⟩ = some (.int .i64 (-1)) := by rw [hW1, hX]; simp
        have x1 : W1.cell? ⟨X, 1, none⟩ = some (.int .i64 0) := by rw [hW1, hX]; simp
        have hXl : X < W1.heap.size := by rw [hW1, hX]; simp
        have HBX : Hid (Below wo.heap.size wo W1) := Lib.hid (by rw [hW1]; exact (Below.refl _ _).alloc (Nat.le_refl _) _)
        have HXw : Hid (wo.heap.size ≤ X) := Lib.hid (by omega)
        have f2 := (HBX.out.cell (p := ⟨nb, noff + k * 2, none⟩) hnbl).trans e2
        have f3 := (HBX.out.cell (p := ⟨nb, noff + k * 2 + 1, none⟩) hnbl).trans e3
        have fx0 : W1.frozen? ⟨X, 0, none⟩ = false := by rw [hW1, hX]; simp
        have fx1 : W1.frozen? ⟨X, 1, none⟩ = false := by rw [hW1, hX]; simp
        have hnb1 : nb < W1.heap.size := Nat.lt_of_lt_of_le hnbl HBX.out.size
        rw [← hX, ← hW1]
        clear hX hW1 e2 e3
        by_cases g0 : p < 0
        · have c3 : decide (0 ≤ p) = false := by simp; omega
          have HF : Hid (cutTo (ns.map absN) f (k + 1) = (M ++ [none], L ++ [2 * ((M.length : Int) + 1)])) := Lib.hid (by
            rw [HF0.out, HAT.out]; unfold absN; rw [if_pos g0])
          have HX := Lib.hid (HW.out.on HBX.out)
          clear g0 hgg
          have HROWO := Lib.hid (own_on HX.out.o ((Below.refl _ W1).alloc (Nat.le_refl _) (.cells #[.int .i64 (-1), .int .i64 0] 37)))
          have hsw := HX.out.b.size
          go_wp2_with (at_builtin; refine wpList_append_lies _ rfl (.tmp 65) (.tmp 67) 22 rfl w.heap.size 37 j0 _ 2 16 Try.underlying22 hj hy0 hy1 hy2 rfl (by decide) ov M.length (nodeCells (M.map conc)) rfl HROWO.out ⟨W1.heap.size, 0, none⟩ 1 1 [.int .i64 (-1), .int .i64 0] rfl rfl (news_pair _ _ _ _) (pair_cell8 _ _) (by omega) (by unfold maxLen; omega) (by omega) (by simp; omega) _ rfl ?_)
          intro t1 c1 w7 hown hgrow hat _
          have HX7 : Hid (CW w w7 (.slice (some ⟨t1, 0, none⟩) (M.length + 1) c1) av (M ++ [none]) L (.slice (some ⟨b, off, none⟩) n scap) S) := Lib.hid (CW.addO HX.out (by exact hown) hgrow (hat.imp id (fun e => by omega)))
          have hz7 := HX7.out.b.size
          have HROW := Lib.hid (own_on HX7.out.a ((Below.refl _ w7).alloc (Nat.le_refl _) (.cells #[.int .i64 (2 * ((M.length : Int) + 1))] 3)))
          clear hown hgrow hat
          go_wp2_with (at_builtin; refine wpList_append_lies _ rfl (.tmp 69) (.tmp 73) 23 rfl w.heap.size 3 i0 (.int .i64 0) 1 8 Try.underlying23 hi hz0 hz1 hz2 rfl (by decide) av L.length (L.map (Value.int .i64)) rfl HROW.out ⟨w7.heap.size, 0, none⟩ 1 1 [.int .i64 (2 * ((M.length : Int) + 1))] rfl rfl (news1 _ _ _) (one_cell _) (by omega) (by unfold maxLen; omega) (by omega) (by simp; omega) _ rfl ?_)
          intro t2 c2 w9 hown hgrow hat _
          have HE := Lib.hid (CW.addA HX7.out hown hgrow (hat.imp id (fun e => by omega)))
          clear hown hgrow hat
          go_wp2_with fail
          go_roundw
          case rel => exact ⟨k + 1, M ++ [none], L ++ [(2 * ((M.length : Int) + 1))], _, .slice (some ⟨t2, 0, none⟩) (L.length + 1) c2, by omega, by go_num, rfl, rfl, by rw [HSL.out]; go_num, HF, HE⟩
          case measure => simp [intOf]; omega
        · have c3 : decide (0 ≤ p) = true := by simp; omega
          obtain ⟨g1, g2, g3⟩ := hgg (by omega)
          obtain ⟨x, rfl⟩ := Int.eq_ofNat_of_zero_le (show 0 ≤ p by omega)
          obtain ⟨y, rfl⟩ := Int.eq_ofNat_of_zero_le g2
          have e4 : (ns.map absN)[k]? = some (some (x, y)) := by
            rw [HAT.out]; unfold absN; rw [if_neg g0]; simp
          obtain ⟨s1, s2⟩ := HDK.out x y e4
          have la := HK.out.lit (a := x) (by omega) s1
          have lb := HK.out.lit (a := y) (by omega) s2
          have pa := HK.out.pl (a := x) (by omega) s1
          have pb := HK.out.pl (a := y) (by omega) s2
          have HF : Hid (cutTo (ns.map absN) f (k + 1) = (M ++ [some ((litAt L x).toNat, (litAt L y).toNat)], L ++ [2 * ((M.length : Int) + 1)])) := Lib.hid (by rw [HF0.out, e4])
          have HL1 : Hid (∀ u, Below W1.heap.size W1 u → Calls Try.prog 35 #[av, .int .i64 (x : Int)] u fun e w' => e = .returned (.int .i64 (litAt L x)) ∧ Below u.heap.size u w') := Lib.hid (fun u hu =>
            refLit_any av L x u (ints_of_owned (own_on (own_on HW.out.a HBX.out) hu)) (by have := HK.out.len; omega) (by have := HK.out.len; omega) ⟨pa.1, by omega, pa.2.1⟩)
          have HL2 : Hid (∀ u, Below W1.heap.size W1 u → Calls Try.prog 35 #[av, .int .i64 (y : Int)] u fun e w' => e = .returned (.int .i64 (litAt L y)) ∧ Below u.heap.size u w') := Lib.hid (fun u hu =>
            refLit_any av L y u (ints_of_owned (own_on (own_on HW.out.a HBX.out) hu)) (by have := HK.out.len; omega) (by have := HK.out.len; omega) ⟨pb.1, by omega, pb.2.1⟩)
          have ha0 := has_iff.1 la.1
          have hb0 := has_iff.1 lb.1
          obtain ⟨A1, hA1⟩ : ∃ A1, A1 = litAt L x := ⟨_, rfl⟩
          obtain ⟨B1, hB1⟩ : ∃ B1, B1 = litAt L y := ⟨_, rfl⟩
          rw [← hA1] at HL1 ha0
          rw [← hB1] at HL2 hb0
          have HCA : Hid ((conc (some ((litAt L x).toNat, (litAt L y).toNat))).1 = A1) := Lib.hid (by rw [← hA1, ← hB1]; show ((A1.toNat : Nat) : Int) = _; omega)
          have HCB : Hid ((conc (some ((litAt L x).toNat, (litAt L y).toNat))).2 = B1) := Lib.hid (by rw [← hA1, ← hB1]; show ((B1.toNat : Nat) : Int) = _; omega)
          have KC : Hid (∀ u, Below W1.heap.size W1 u → u.cell? ⟨nb, noff + k * 2, none⟩ = some (.int .i64 (x : Int)) ∧ u.cell? ⟨nb, noff + k * 2 + 1, none⟩ = some (.int .i64 (y : Int)) ∧ u.cell? ⟨X, 0, none⟩ = some (.int .i64 (-1)) ∧ u.cell? ⟨X, 1, none⟩ = some (.int .i64 0) ∧ u.frozen? ⟨X, 0, none⟩ = false ∧ u.frozen? ⟨X, 1, none⟩ = false) := Lib.hid (fun u hu =>
            ⟨(hu.cell (p := ⟨nb, noff + k * 2, none⟩) hnb1).trans f2, (hu.cell (p := ⟨nb, noff + k * 2 + 1, none⟩) hnb1).trans f3, (hu.cell (p := ⟨X, 0, none⟩) hXl).trans x0, (hu.cell (p := ⟨X, 1, none⟩) hXl).trans x1, (hu.frozen (p := ⟨X, 0, none⟩) hXl).trans fx0, (hu.frozen (p := ⟨X, 1, none⟩) hXl).trans fx1⟩)
          have HD1 : Hid (Below W1.heap.size W1 (W1.drewN 1)) := Lib.hid (below_drewN (Below.refl _ _) 1)
          clear g0 hgg g1 g2 g3 s1 s2 la lb pa pb ha0 hb0 hA1 hB1 e4
          go_upto_region 11 with fail
          have t7 : IntKind.i64.wrap ((k : Int) + 1 - 1) = (k : Int) := by rw [d6]; exact IntWalk.i64_in _ (by omega)
          have t8 : ((k : Int)).toNat = k := by omega
          have t9 : IntKind.i64.wrap (k : Int) = (k : Int) := IntWalk.i64_in _ (by omega)
          have HBS : Hid (∀ (u : World) (v1 v2 : Value), Below wo.heap.size u ((u.setCell ⟨X, 0, none⟩ v1).setCell ⟨X, 1, none⟩ v2)) := Lib.hid (fun u v1 v2 => ((Below.refl _ u).setCell (p := ⟨X, 0, none⟩) HXw.out _).setCell (p := ⟨X, 1, none⟩) HXw.out _)
          go_region_held3 (fun w' => w'.cell? ⟨nb, noff + k * 2, none⟩ = some (.int .i64 (x : Int)) ∧ w'.cell? ⟨nb, noff + k * 2 + 1, none⟩ = some (.int .i64 (y : Int)))
            (first | (exact ⟨(KC.out _ hb6).1, (KC.out _ hb6).2.1⟩) | (exact ⟨(KC.out _ hb5).1, (KC.out _ hb5).2.1⟩) | (exact ⟨((HBS.out _ _ _).cell (p := ⟨nb, noff + k * 2, none⟩) hnbl).trans (KC.out _ hb6).1, ((HBS.out _ _ _).cell (p := ⟨nb, noff + k * 2 + 1, none⟩) hnbl).trans (KC.out _ hb6).2.1⟩) | go_keep)
            (first | (go_at_call_of 35 (Value.int IntKind.i64 (x : Int)); refine (HL1.out _ HD1.out).mono ?_; rintro e w5 ⟨rfl, hb⟩; have hb5 := HD1.out.trans (hb.mono HD1.out.size)) | (go_at_call 35; refine (HL2.out _ hb5).mono ?_; rintro e w6 ⟨rfl, hbb⟩; have hb6 := hb5.trans (hbb.mono hb5.size); obtain ⟨-, -, xa, xb, xc, xd⟩ := KC.out _ hb6))
          clear t7 t8 t9
          have HX : Hid (CW w ((w6.setCell ⟨X, 0, none⟩ (.int .i64 A1)).setCell ⟨X, 1, none⟩ (.int .i64 B1)) ov av M L (.slice (some ⟨b, off, none⟩) n scap) S) := Lib.hid (
            HW.out.on ((HBX.out.trans (hb6.mono HBX.out.size)).trans (HBS.out _ _ _)))
          have z0 : ((w6.setCell ⟨X, 0, none⟩ (.int .i64 A1)).setCell ⟨X, 1, none⟩ (.int .i64 B1)).cell? ⟨X, 0, none⟩ = some (.int .i64 A1) := by
            exact (World.cell?_setCell_other _ ⟨X, 1, none⟩ ⟨X, 0, none⟩ _ (fun e => by cases e)).trans (World.cell?_setCell_same _ _ _ xa)
          have z1 : ((w6.setCell ⟨X, 0, none⟩ (.int .i64 A1)).setCell ⟨X, 1, none⟩ (.int .i64 B1)).cell? ⟨X, 1, none⟩ = some (.int .i64 B1) := by
            exact World.cell?_setCell_same _ _ _ ((World.cell?_setCell_other _ ⟨X, 0, none⟩ ⟨X, 1, none⟩ _ (fun e => by cases e)).trans xb)
          obtain ⟨W8, hW8⟩ : ∃ W8, W8 = (w6.setCell ⟨X, 0, none⟩ (.int .i64 A1)).setCell ⟨X, 1, none⟩ (.int .i64 B1) := ⟨_, rfl⟩
          rw [← hW8] at HX z0 z1 ⊢
          clear hW8 hb hbb hb5 hb6 xa xb xc xd x0 x1 f2 f3 fx0 fx1
          have HROWO := Lib.hid (own_on HX.out.o ((Below.refl _ W8).alloc (Nat.le_refl _) (.cells #[.int .i64 A1, .int .i64 B1] 37)))
          have hsw := HX.out.b.size
          go_wp2_with (at_builtin; refine wpList_append_lies _ rfl (.tmp 65) (.tmp 67) 22 rfl w.heap.size 37 j0 _ 2 16 Try.underlying22 hj hy0 hy1 hy2 rfl (by decide) ov M.length (nodeCells (M.map conc)) rfl HROWO.out ⟨W8.heap.size, 0, none⟩ 1 1 [.int .i64 A1, .int .i64 B1] rfl rfl (news_pair _ _ _ _) (pair_cell8 _ _) (by omega) (by unfold maxLen; omega) (by omega) (by simp; omega) _ rfl ?_)
          intro t1 c1 w7 hown hgrow hat _
          have HX7 : Hid (CW w w7 (.slice (some ⟨t1, 0, none⟩) (M.length + 1) c1) av (M ++ [some ((litAt L x).toNat, (litAt L y).toNat)]) L (.slice (some ⟨b, off, none⟩) n scap) S) := Lib.hid (CW.addO HX.out (by rw [HCA.out, HCB.out]; exact hown) hgrow (hat.imp id (fun e => by omega)))
          have hz7 := HX7.out.b.size
          have HROW := Lib.hid (own_on HX7.out.a ((Below.refl _ w7).alloc (Nat.le_refl _) (.cells #[.int .i64 (2 * ((M.length : Int) + 1))] 3)))
          clear hown hgrow hat
          go_wp2_with (at_builtin; refine wpList_append_lies _ rfl (.tmp 69) (.tmp 73) 23 rfl w.heap.size 3 i0 (.int .i64 0) 1 8 Try.underlying23 hi hz0 hz1 hz2 rfl (by decide) av L.length (L.map (Value.int .i64)) rfl HROW.out ⟨w7.heap.size, 0, none⟩ 1 1 [.int .i64 (2 * ((M.length : Int) + 1))] rfl rfl (news1 _ _ _) (one_cell _) (by omega) (by unfold maxLen; omega) (by omega) (by simp; omega) _ rfl ?_)
          intro t2 c2 w9 hown hgrow hat _
          have HE := Lib.hid (CW.addA HX7.out hown hgrow (hat.imp id (fun e => by omega)))
          clear hown hgrow hat
          go_wp2_with fail
          go_roundw
          case rel => exact ⟨k + 1, M ++ [some ((litAt L x).toNat, (litAt L y).toNat)], L ++ [(2 * ((M.length : Int) + 1))], _, .slice (some ⟨t2, 0, none⟩) (L.length + 1) c2, by omega, by go_num, rfl, rfl, by rw [HSL.out]; go_num, HF, HE⟩
          case measure => simp [intOf]; omega
    · obtain rfl : m = k := by omega
      have d0 : decide ((m : Int) + 1 ≤ (m : Int)) = false := by simp; omega
      have HE : Hid (CutTold (cutTo (ns.map absN) f m) w (.returned (.tuple #[ov, av])) wo) := Lib.hid (by rw [HCT.out]; exact ⟨ov, av, rfl, HW.out.o, HW.out.a, HW.out.b⟩)
      clear hlt hk
      go_wp2_with fail
      go_ret2
      exact HE.out
end Go.Proofs.Ytbdmndhjbemenaa.aig
