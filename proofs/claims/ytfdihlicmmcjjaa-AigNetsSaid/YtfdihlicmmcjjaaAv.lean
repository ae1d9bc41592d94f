/- The walk of a statement's step: Copy. -/
import Derived.Test.YtfdihlicmmcjjaaAu
import Derived.Test.YtfdihlicmmcjjaaIb
import Derived.Maps.AppendAt
namespace Go.Proofs.Ytfdihlicmmcjjaa.aig
open Go.RowKit
open Go.Proofs.Ytfdihlicmmcjjaa.mem Go.Proofs.Ytfdihlicmmcjjaa.agf

theorem step_clone2 {ops : Array Oper} {o : Oper} {a : Act} {K : Act → World → Prop} {Q : Exit → Act → World → Prop} {Z : Prop} (w : World) (hgd : o.guard = none) (s x : Operand)
    (ho : o.op = .call { callee := .builtin .append, args := #[s, x], argTypes := #[27, 27] }) (E : Nat) (hs : a.eval s = .slice (some ⟨E, 0, none⟩) 0 0)
    (hown : w.ownsRow E 3 1 (.slice (some ⟨E, 0, none⟩) 0 0) 0 []) (v : Value) (hx : a.eval x = v) (zs : List Int) (P : Nat → Prop) (hv : KInts P w v zs) (ok : SliceOk v) (hsz : zs.length ≤ 1000)
    (h : ∀ v' w', w'.ownsRow E 3 1 v' zs.length (zs.map (Value.int .i64)) → w.grownBy w' (some E) → (∀ k, v'.ownBlock = some k → k = E ∨ k = w.heap.size) → K (a.put o.dst v') w') :
    if Region.wanted o (yielded ops a.tmps) = true then Oper.wp Try.prog o a w K Q else Z := by
  have hw : Region.wanted o (yielded ops a.tmps) = true := by simp [Region.wanted, hgd]
  rw [if_pos hw]
  obtain ⟨i0, hi, hz0, hz1, hz2⟩ := info_parts infoI
  have hE : E ≤ w.heap.size := by have := (hown.lt E rfl).2; omega
  rcases ok with rfl | ⟨ad, n, cap, rfl⟩
  · obtain ⟨a', cap', hv', h1, -, -⟩ := hv
    obtain ⟨-, e, -⟩ := Value.slice.inj hv'
    obtain rfl : zs = [] := List.eq_nil_of_length_eq_zero e.symm
    have hrun := run_append_owned_none (P := Try.prog) (w := w) E 27 o.type 3 i0 1 Try.underlying27 hi _ _ _ hown
    have h2 := h _ _ hown (World.grownBy.refl w _) (fun k hk => .inl (by simpa [Value.ownBlock] using hk.symm))
    unfold Oper.wp
    simp [execOp, ho, resolve, invoke, builtin, hs, hx, hrun, Result.andThen]
    exact h2
  · obtain ⟨hl, hnews⟩ := kints_news hv
    obtain ⟨v1, w1, hrun, hown1, hgrow, -, hat⟩ := run_append_own_at (P := Try.prog) w E 27 o.type 3 i0 (.int .i64 0) 1 8 Try.underlying27 hi hz0 hz1 hz2 rfl (by decide) _ _ _ hown ad n cap (zs.map (Value.int .i64)) (by simp [hl]) hnews (ints_oneCell _ zs) (by unfold maxLen; omega) (by omega) hE
    have h2 := h v1 w1 (by rw [hl]; simpa using hown1) hgrow (fun k hk => by
      rcases hat with e | e <;> rw [hk] at e
      · exact .inl (by simpa [Value.ownBlock] using e)
      · exact .inr (by simpa using e))
    unfold Oper.wp execOp
    simp only [ho, resolve, invoke, builtin, Sem.run_bind, Sem.run_pure, Result.andThen_ok, List.map_toArray, List.map_cons, List.map_nil, hs, hx, hrun]
    exact h2
theorem step_clone2N {ops : Array Oper} {o : Oper} {a : Act} {K : Act → World → Prop} {Q : Exit → Act → World → Prop} {Z : Prop} (w : World) (hgd : o.guard = none) (s x : Operand)
    (ho : o.op = .call { callee := .builtin .append, args := #[s, x], argTypes := #[22, 22] }) (E : Nat) (hs : a.eval s = .slice (some ⟨E, 0, none⟩) 0 0)
    (hown : w.ownsRow E 54 2 (.slice (some ⟨E, 0, none⟩) 0 0) 0 []) (v : Value) (hx : a.eval x = v) (ns : List (Int × Int)) (P : Nat → Prop) (hv : KNds P w v ns) (ok : SliceOk v) (hsz : ns.length ≤ 1000)
    (h : ∀ v' w', w'.ownsRow E 54 2 v' ns.length (nodeCells ns) → w.grownBy w' (some E) → (∀ k, v'.ownBlock = some k → k = E ∨ k = w.heap.size) → K (a.put o.dst v') w') :
    if Region.wanted o (yielded ops a.tmps) = true then Oper.wp Try.prog o a w K Q else Z := by
  have hw : Region.wanted o (yielded ops a.tmps) = true := by simp [Region.wanted, hgd]
  rw [if_pos hw]
  obtain ⟨i0, hi, hz0, hz1, hz2⟩ := info_parts infoN
  have hE : E ≤ w.heap.size := by have := (hown.lt E rfl).2; omega
  rcases ok with rfl | ⟨ad, n, cap, rfl⟩
  · obtain ⟨a', cap', hv', h1, -, -⟩ := hv
    obtain ⟨-, e, -⟩ := Value.slice.inj hv'
    obtain rfl : ns = [] := List.eq_nil_of_length_eq_zero e.symm
    have hrun := run_append_owned_none (P := Try.prog) (w := w) E 22 o.type 54 i0 2 Try.underlying22 hi _ _ _ hown
    have h2 := h _ _ hown (World.grownBy.refl w _) (fun k hk => .inl (by simpa [Value.ownBlock] using hk.symm))
    unfold Oper.wp
    simp [execOp, ho, resolve, invoke, builtin, hs, hx, hrun, Result.andThen]
    exact h2
  · obtain ⟨hl, hnews⟩ := knds_news hv
    obtain ⟨v1, w1, hrun, hown1, hgrow, -, hat⟩ := run_append_own_at (P := Try.prog) w E 22 o.type 54 i0 _ 2 16 Try.underlying22 hi hz0 hz1 hz2 rfl (by decide) _ _ _ hown ad n cap (nodeCells ns) (by rw [nodeCells_len, hl]) hnews (nodes_oneCell ns) (by unfold maxLen; omega) (by omega) hE
    have h2 := h v1 w1 (by rw [hl]; simpa using hown1) hgrow (fun k hk => by
      rcases hat with e | e <;> rw [hk] at e
      · exact .inl (by simpa [Value.ownBlock] using e)
      · exact .inr (by simpa using e))
    unfold Oper.wp execOp
    simp only [ho, resolve, invoke, builtin, Sem.run_bind, Sem.run_pure, Result.andThen_ok, List.map_toArray, List.map_cons, List.map_nil, hs, hx, hrun]
    exact h2
/-- a row beside one that grows -/
theorem row_far {w2 w3 : World} {E sz n EI : Nat} {t : TypeId} {v : Value} {xs : List Value} (h : w2.ownsRow E t sz v n xs) (hg : w2.grownBy w3 (some EI)) (hk : ∀ k, v.ownBlock = some k → k ≠ EI) : w3.ownsRow E t sz v n xs := by
  refine h.kept hg ?_
  cases hv : v.ownBlock with
  | none => exact .inl rfl
  | some k => exact .inr (fun e => hk k hv (by simpa using e))
theorem row_alloc {w : World} {E sz n : Nat} {t : TypeId} {v : Value} {xs : List Value} (h : w.ownsRow E t sz v n xs) (o : Obj) : (w.alloc o).drew.ownsRow E t sz v n xs := by
  have h2 : (w.alloc o).ownsRow E t sz v n xs := by
    refine h.kept (World.grownBy_alloc w o none) ?_
    cases hv : v.ownBlock with
    | none => exact .inl rfl
    | some k => exact .inr (by simp)
  exact h2
theorem row_alloc2 {w : World} {E sz n : Nat} {t : TypeId} {v : Value} {xs : List Value} (h : w.ownsRow E t sz v n xs) (o : Obj) : (w.alloc o).ownsRow E t sz v n xs := row_alloc h o
theorem row_made (w : World) (t : TypeId) (sz E : Nat) (h : w.heap.size = E) : (w.alloc (.cells #[] t)).ownsRow E t sz (.slice (some ⟨E, 0, none⟩) 0 0) 0 [] := by
  subst h
  exact World.ownsRow_made w #[] 0 (Nat.le_refl _) (by unfold maxLen; omega) (by simp)
theorem knds_any {P : Nat → Prop} {W w : World} {v : Value} {ns : List (Int × Int)} (k : KNds P W v ns) (hb : Below W.heap.size W w) : KNds (fun _ => False) w v ns := by
  obtain ⟨a, cap, hv, h1, h2, h3⟩ := k
  refine ⟨a, cap, hv, h1, h2, fun hp => ?_⟩
  obtain ⟨b, off, ha, hlt, hn, hc⟩ := h3 hp
  exact ⟨b, off, ha, Nat.lt_of_lt_of_le hlt hb.size, fun e => e, fun i hi => ⟨(hb.cell (p := ⟨b, off + i * 2, none⟩) hlt).trans (hc i hi).1, (hb.cell (p := ⟨b, off + i * 2 + 1, none⟩) hlt).trans (hc i hi).2⟩⟩
set_option maxRecDepth 100000 in
set_option maxHeartbeats 3200000 in
theorem step_copy (J : Proj) (g : Nat) (s : J.σ) (N : Net) (h : Nat) (sv : Value) (M : Net) (a b c : Int) (l : List Int) (n : List (Int × Int)) (lv nv : Value) (W0 w : World) (t : Two J W0.heap.size w g s N h sv M) (hb : Below W0.heap.size W0 w)
    (hN : N.length ≤ 800000) (hM : M.length ≤ 800000) (hl : KInts (New W0) W0 lv l) (ok : SliceOk lv) (hn : l.length ≤ 60) (hs : KNds (New W0) W0 nv n) (okn : SliceOk nv) (hnn : n.length ≤ 60) (hg : GoodN n) :
    Calls Try.prog 21 #[.pointer (some ⟨g, 0, none⟩), .pointer (some ⟨h, 0, none⟩), .agg #[.int .i64 7, .int .i64 a, .int .i64 b, .int .i64 c, lv, nv]] w (Stepped J W0.heap.size g N h M ⟨7, a, b, c, l, n⟩ w) := by
  have hA := hb.size
  have HT := Lib.hid (t.on ((Below.refl _ w).alloc (Nat.le_refl _) (.cells #[.int .i64 7, .int .i64 a, .int .i64 b, .int .i64 c, lv, nv] 39)))
  have HBW : Hid (Below W0.heap.size W0 (w.alloc (.cells #[.int .i64 7, .int .i64 a, .int .i64 b, .int .i64 c, lv, nv] 39))) := Lib.hid (hb.alloc hA _)
  have HBX : Hid (Below W0.heap.size w (w.alloc (.cells #[.int .i64 7, .int .i64 a, .int .i64 b, .int .i64 c, lv, nv] 39))) := Lib.hid ((Below.refl _ _).alloc hA _)
  have hlt : w.heap.size < (w.alloc (.cells #[.int .i64 7, .int .i64 a, .int .i64 b, .int .i64 c, lv, nv] 39)).heap.size := by simp
  have HO1 : Hid (∀ k, J.own g s k → k < w.heap.size) := Lib.hid (fun k hk => (J.ge t.pr k hk).2)
  have HO2 : Hid (∀ k, ROwn h sv k → k < w.heap.size) := Lib.hid (fun k hk => by obtain ⟨B, hr⟩ := t.rf; exact (hr.ge k hk).2)
  have HL := Lib.hid hl
  have HK := Lib.hid ok
  have HLN := Lib.hid hs
  have HKN := Lib.hid okn
  have HG := Lib.hid hg
  clear t hb hl ok hs okn hg
  go_enter Try.func21, Try.ntmps21
  go_upto_region 15 with fail
  obtain ⟨X, hX⟩ : ∃ X, X = w.heap.size := ⟨_, rfl⟩
  obtain ⟨W1, hW1⟩ : ∃ W1, W1 = w.alloc (.cells #[.int .i64 7, .int .i64 a, .int .i64 b, .int .i64 c, lv, nv] 39) := ⟨_, rfl⟩
  have x1 : W1.cell? ⟨X, 4, none⟩ = some lv := by rw [hW1, hX]; simp
  have x2 : W1.cell? ⟨X, 5, none⟩ = some nv := by rw [hW1, hX]; simp
  rw [← hW1] at HT HBW HBX hlt
  rw [← hX] at hlt HO1 HO2 hA
  rw [← hX, ← hW1]
  have hA1 : W0.heap.size ≤ W1.heap.size := by omega
  have n1 : ¬ J.own g s X := fun e => by have := HO1.out X e; omega
  have n2 : ¬ ROwn h sv X := fun e => by have := HO2.out X e; omega
  have HE1 : Hid (∀ k, J.own g s k → k < W1.heap.size) := Lib.hid (fun k hk => by have := HO1.out k hk; omega)
  clear hX hW1
  have M1 : Hid ((W1.alloc (.cells #[] 54)).drew.ownsRow W1.heap.size 54 2 (.slice (some ⟨W1.heap.size, 0, none⟩) 0 0) 0 []) := Lib.hid (row_made W1 _ 2 _ rfl)
  have M2 : Hid (((W1.alloc (.cells #[] 54)).alloc (.cells #[] 3)).drew.ownsRow W1.heap.size 54 2 (.slice (some ⟨W1.heap.size, 0, none⟩) 0 0) 0 []) := Lib.hid (row_alloc (row_made W1 54 2 _ rfl) _)
  have M3 : Hid (((W1.alloc (.cells #[] 3)).alloc (.cells #[] 54)).drew.ownsRow (W1.heap.size + 1) 54 2 (.slice (some ⟨W1.heap.size + 1, 0, none⟩) 0 0) 0 []) := Lib.hid (row_made (W1.alloc (.cells #[] 3)) _ 2 _ (by simp))
  have I2 : Hid (((W1.alloc (.cells #[] 54)).alloc (.cells #[] 3)).drew.ownsRow (W1.heap.size + 1) 3 1 (.slice (some ⟨W1.heap.size + 1, 0, none⟩) 0 0) 0 []) := Lib.hid (row_made (W1.alloc (.cells #[] 54)) _ 1 _ (by simp))
  have I3 : Hid (((W1.alloc (.cells #[] 3)).alloc (.cells #[] 54)).drew.ownsRow W1.heap.size 3 1 (.slice (some ⟨W1.heap.size, 0, none⟩) 0 0) 0 []) := Lib.hid (row_alloc (row_made W1 3 1 _ rfl) _)
  have B1 : Hid (Below W1.heap.size W1 (W1.alloc (.cells #[] 54)).drew) := Lib.hid (((Below.refl _ W1).alloc (Nat.le_refl _) _).drew)
  have B2 : Hid (Below W1.heap.size W1 ((W1.alloc (.cells #[] 54)).alloc (.cells #[] 3)).drew) := Lib.hid ((((Below.refl _ W1).alloc (Nat.le_refl _) _).alloc (by simp) _).drew)
  have B3 : Hid (Below W1.heap.size W1 ((W1.alloc (.cells #[] 3)).alloc (.cells #[] 54)).drew) := Lib.hid ((((Below.refl _ W1).alloc (Nat.le_refl _) _).alloc (by simp) _).drew)
  have KN : Hid (∀ u, Below W1.heap.size W1 u → KNds (fun _ => False) u nv n) := Lib.hid (fun u hu => knds_any HLN.out (HBW.out.trans (hu.mono hA1)))
  have KI : Hid (∀ u, Below W1.heap.size W1 u → KInts (fun _ => False) u lv l) := Lib.hid (fun u hu => kints_any HL.out (HBW.out.trans (hu.mono hA1)))
  have KC : Hid (∀ u, Below W1.heap.size W1 u → u.cell? ⟨X, 4, none⟩ = some lv ∧ u.cell? ⟨X, 5, none⟩ = some nv) := Lib.hid (fun u hu => ⟨(hu.cell (p := ⟨X, 4, none⟩) hlt).trans x1, (hu.cell (p := ⟨X, 5, none⟩) hlt).trans x2⟩)
  go_region_held3 (fun w' => w'.cell? ⟨X, 4, none⟩ = some lv ∧ w'.cell? ⟨X, 5, none⟩ = some nv)
    (first | (exact k6) | (exact k5) | (exact k4) | (exact KC.out _ hb3) | (exact KC.out _ hb2) | (exact KC.out _ (hb2.alloc hb2.size _)) | go_keep)
    (first | (go_at_call 24; refine (J.copy _ g s N v2 v3 n l _ (HT.out.on hb3).pr hkn HG.out hki (by omega) (by omega) (by omega)).mono ?_; rintro e w4 ⟨s2, u2, rfl, p4, m4, L4⟩; have q3 : X < w3.heap.size := Nat.lt_of_lt_of_le hlt hb3.size; have k4 := And.intro ((m4.cell q3 n1 4).trans (KC.out _ hb3).1) ((m4.cell q3 n1 5).trans (KC.out _ hb3).2)) | (go_at_call 44; obtain ⟨B, hr⟩ := ((HT.out.on hb3).first p4 m4).rf; have hb4 : Below W0.heap.size W0 w4 := HBW.out.trans ((hb3.mono hA1).trans (m4.below (HT.out.on hb3).ge.1 (Nat.le_trans hA1 hb3.size))); refine (refCopy_any _ B h sv nv lv M n l _ hr (HLN.out.arg hb4 HT.out.ge.2) HG.out (HL.out.arg hb4 HT.out.ge.2) (by omega) (by omega) (by omega)).mono ?_; rintro e w5 ⟨sv3, u5, rfl, p5, m5, L5⟩; have k5 := And.intro ((m5.cell (Nat.lt_of_lt_of_le q3 m4.only.size) n2 4).trans k4.1) ((m5.cell (Nat.lt_of_lt_of_le q3 m4.only.size) n2 5).trans k4.2)) | (go_at_call 10; have L4b : LRow w3.heap.size (ROwn h sv) w4 u2 _ := ⟨L4.row, fun k hk hp => by have := (L4.row.lt k hk).1; have := HO2.out k hp; omega⟩; refine (ints.refInts_any _ _ u2 u5 _ (ints.ints_of_owned (L4b.move m5).row) (ints.ints_of_owned L5.row)).mono ?_; rintro e w6 ⟨rfl, hb6⟩; have q5 := Nat.lt_of_lt_of_le (Nat.lt_of_lt_of_le q3 m4.only.size) m5.only.size; have k6 := And.intro ((hb6.cell (p := ⟨X, 4, none⟩) q5).trans k5.1) ((hb6.cell (p := ⟨X, 5, none⟩) q5).trans k5.2)) | (refine step_clone2N _ (by rfl) (.tmp 96) (.tmp 98) (by rfl) _ (by rfl) (by first | exact M1.out | exact M2.out | exact M3.out) nv (by rfl) n (fun _ => False) (KN.out _ (by first | exact B1.out | exact B2.out | exact B3.out)) HKN.out (by omega) ?_; intro v2 w2 hown2 hg2 hk2; have hb2 : Below W1.heap.size W1 w2 := (by first | exact B1.out.grown hg2 (by simp) (fun k hk => by cases hk; omega) | exact B2.out.grown hg2 (by simp; omega) (fun k hk => by cases hk; omega) | exact B3.out.grown hg2 (by simp; omega) (fun k hk => by cases hk; omega))) | (refine step_clone2 _ (by rfl) (.tmp 100) (.tmp 102) (by rfl) _ (by rfl) (by first | exact row_made w2 _ 1 _ rfl | exact row_far I2.out hg2 (fun k hk e => by simp [Value.ownBlock] at hk; omega) | exact row_far I3.out hg2 (fun k hk e => by simp [Value.ownBlock] at hk; omega)) lv (by rfl) l (fun _ => False) (KI.out _ (by first | exact hb2 | exact hb2.alloc hb2.size _)) HK.out (by omega) ?_; intro v3 w3 hown3 hg3 hk3; have hb3 : Below W1.heap.size W1 w3 := (by first | exact hb2.grown hg3 hb2.size (fun k hk => by cases hk; omega) | exact (hb2.alloc hb2.size _).grown hg3 (by simp; have := hb2.size; omega) (fun k hk => by cases hk; exact hb2.size)); have hkn : KNds (J.own g s) w3 v2 n := (by first | exact knds_row (row_far (row_alloc2 hown2 _) hg3 (fun k hk e => by have := (hown2.lt k hk).2; omega)) (fun k hk => by have := HE1.out k hk; omega) | exact knds_row (row_far hown2 hg3 (fun k hk e => by rcases hk2 k hk with e2 | e2 <;> (try simp at e2) <;> omega)) (fun k hk => by have := HE1.out k hk; omega)); have hki : KInts (J.own g s) w3 v3 l := kints_row hown3 (fun k hk => by have := HE1.out k hk; have := hb2.size; omega)) | fail)
  all_goals
    have HE0 := two_end (HT.out.on hb3) (HBX.out.trans (hb3.mono hA1)) (Nat.le_trans hA1 hb3.size) p4 m4 p5 m5
    have hA5 : W0.heap.size ≤ w5.heap.size := Nat.le_trans (Nat.le_trans hA1 hb3.size) (Nat.le_trans m4.only.size m5.only.size)
    have HE := Lib.hid (And.intro (HE0.1.on hb6) (HE0.2.trans (hb6.mono hA5)))
    have HR : Hid (stepB N M ⟨7, a, b, c, l, n⟩ = decide ((copyF N (n.map absN) l).1 = (copyF M (n.map absN) l).1)) := Lib.hid rfl
    clear HE0 p4 m4 p5 m5 L4 L4b L5 k4 k5 k6 x1 x2 hown2 hown3 hg2 hg3 hk2 hk3 hb2 hb3 hkn hki
    go_wp2_with fail
    go_ret
    exact ⟨s2, sv3, retB HR.out.symm, HE.out.1, HE.out.2⟩
end Go.Proofs.Ytfdihlicmmcjjaa.aig
