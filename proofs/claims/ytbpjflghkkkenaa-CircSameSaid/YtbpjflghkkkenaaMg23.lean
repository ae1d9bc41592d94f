import Derived.Test.YtbpjflghkkkenaaMg22
import Derived.Test.YtbpjflghkkkenaaMg20
import Derived.StillTail
import Derived.StillTailTactics
/- What the landed functions of circuits answer; the chapter's example. -/
namespace Go.Proofs.Ytbpjflghkkkenaa.row
open Go.RowKit
open Go.Proofs.Ytbpjflghkkkenaa.mem (own_on addr_add)
open Go.Proofs.Ytbpjflghkkkenaa.ints (Ints ints_cell below_drewN ints_of_owned)
open Go.Proofs.Ytbpjflghkkkenaa.aig (KNds)

/-- how a list is told that is only looked at -/
def TellsR (L : List Int) (w : World) (e : Ending) (w' : World) : Prop := ∃ u, e = .returned u ∧ Ints w' u L ∧ Below w.heap.size w w'
/-- a circuit that lies in none of the blocks that there were -/
abbrev OldR (w : World) : Nat → Prop := fun k => k < w.heap.size
/-- what the landed functions answer -/
structure CircAll : Prop where
  check : ∀ (D : CD) (F : CF) (P : Nat → Prop) (w : World), InC P w D F → Fits D → Lens D → Calls Try.prog 8 #[cval D F] w (SaysI (checkF D) w)
  order : ∀ (D : CD) (F : CF) (P : Nat → Prop) (w : World), InC P w D F → Fits D → Lens D → checkF D = 0 → Calls Try.prog 15 #[cval D F] w (TellsR (orderL D.gates) w)
  net : ∀ (D : CD) (F : CF) (P : Nat → Prop) (w : World), InC P w D F → Fits D → Lens D → checkF D = 0 → Calls Try.prog 12 #[cval D F] w (TellsN (netF D) w)
  same : ∀ (D : CD) (F : CF) (E : CD) (G : CF) (P Q : Nat → Prop) (w : World), InC P w D F → InC Q w E G → Fits D → Fits E → Lens D → Lens E → Calls Try.prog 19 #[cval D F, cval E G] w (SaysW (sameB D E) w)
  clone : ∀ (D : CD) (F : CF) (P : Nat → Prop) (w : World), InC P w D F → Fits D → Lens D → Calls Try.prog 20 #[cval D F] w fun e w' => ∃ F', e = .returned (cval D F') ∧ InC (OldR w) w' D F' ∧ Below w.heap.size w w'
/-- the example -/
def exD : CD := ⟨1, [], [(2, 3, 0)], [], [2], [], [], [], ⟨#[]⟩⟩
def exF (a b : Nat) : CF := ⟨none, 0, some ⟨a, 0, none⟩, 1, none, 0, some ⟨b, 0, none⟩, 1, none, 0, none, 0, none, 0⟩
theorem ex_check : checkF exD = 0 := by decide
theorem ex_net : netF exD = ([(-1, 0)], [0, 2]) := by decide
theorem ex_lens : Lens exD := ⟨by decide, by decide, by decide, by decide, by decide, by decide, by decide⟩
theorem ex_fits : Fits exD := by
  refine ⟨by unfold In64 exD; simp, fun z hz => ?_, fun t ht => ?_, fun z hz => ?_, fun z hz => ?_, fun z hz => ?_, fun t ht => ?_, fun t ht => ?_, by show (0 : Nat) ≤ maxLen; exact Nat.zero_le _⟩
  · simp [exD] at hz
  · simp [exD] at ht; subst ht; unfold Fit3 In64; simp
  · simp [exD] at hz
  · simp [exD] at hz; subst hz; unfold In64; simp
  · simp [exD] at hz
  · simp [exD] at ht
  · simp [exD] at ht
theorem rw_none {α : Type} (enc : α → List Value) (sz : Nat) (P : Nat → Prop) (w : World) : Rw enc sz P w (.slice none 0 0) [] := ⟨none, 0, rfl, Nat.le_refl _, by unfold maxLen; omega, fun _ => rfl, fun hp => by simp at hp⟩
theorem rw_one {α : Type} {enc : α → List Value} {sz : Nat} {w : World} {X : Nat} (x : α) (h : Blk w X (enc x).toArray) : Rw enc sz (fun _ => False) w (.slice (some ⟨X, 0, none⟩) 1 1) [x] := by
  refine ⟨_, _, rfl, Nat.le_refl _, by unfold maxLen; omega, (fun e => by cases e), fun _ => ⟨X, 0, rfl, h.lt, fun e => e, fun i y hi j u hu => ?_⟩⟩
  match i, hi with
  | 0, hi =>
    simp at hi
    subst hi
    have e : (⟨X, 0 + 0 * sz + j, none⟩ : Addr) = ⟨X, j, none⟩ := by simp
    rw [e, (h.cell j).1]
    simpa using hu
theorem ex_in {w : World} {a b : Nat} (ha : Blk w a #[.int .i64 2, .int .i64 3, .int .i64 0]) (hb : Blk w b #[.int .i64 2]) : InC (fun _ => False) w exD (exF a b) :=
  ⟨rw_none _ _ _ _, rw_one (enc := enc3) (2, 3, 0) ha, rw_none _ _ _ _, rw_one (enc := enc1) 2 hb, rw_none _ _ _ _, rw_none _ _ _ _, rw_none _ _ _ _⟩
theorem ints_two (w : World) (x y : Int) : Ints (w.alloc (.cells #[.int .i64 x, .int .i64 y] 3)) (.slice (some ⟨w.heap.size, 0, none⟩) 2 2) [x, y] :=
  ints_of_owned (zs := [x, y]) (World.ownsRow_lit w (e := 3) (base := w.heap.size) (size := 1) #[.int .i64 x, .int .i64 y] 2 (Nat.le_refl _) (by unfold maxLen; omega) rfl)
set_option maxRecDepth 100000 in
set_option maxHeartbeats 1600000 in
theorem lives11_any (K : CircAll) (w : World) : Calls Try.prog 7 #[] w (SaysW true w) := by
  have HK := Lib.hid K.check
  have HN := Lib.hid K.net
  clear K
  have b0 := blk_new w #[.int .i64 2, .int .i64 3, .int .i64 0] 45
  have q : ∀ (w : World) (b : Obj), Below w.heap.size w (w.alloc b) := fun w b => (Below.refl _ _).alloc (Nat.le_refl _) _
  have b1 := blk_new (w.alloc (.cells #[.int .i64 2, .int .i64 3, .int .i64 0] 45)) #[.int .i64 2] 3
  have s1 : (w.alloc (.cells #[.int .i64 2, .int .i64 3, .int .i64 0] 45)).heap.size = w.heap.size + 1 := by simp
  rw [s1] at b1
  have HA := Lib.hid (b0.on (q _ (.cells #[.int .i64 2] 3)))
  have HB := Lib.hid b1
  have HBE : Hid (Below w.heap.size w ((w.alloc (.cells #[.int .i64 2, .int .i64 3, .int .i64 0] 45)).alloc (.cells #[.int .i64 2] 3))) := Lib.hid ((q _ _).trans ((q _ _).mono (by omega)))
  clear b0 b1 s1
  go_enter Try.func7, Try.ntmps7
  go_upto_region 2 with fail
  obtain ⟨v2, hv2⟩ : ∃ v2, v2 = (w.alloc (.cells #[.int .i64 2, .int .i64 3, .int .i64 0] 45)).alloc (.cells #[.int .i64 2] 3) := ⟨_, rfl⟩
  have s2 : w.heap.size + 1 + 1 = v2.heap.size := by rw [hv2]; simp
  rw [← hv2] at HA HB HBE ⊢
  rw [s2]
  clear hv2
  obtain ⟨v, hv⟩ : ∃ v, v = v2.alloc (.cells #[.int .i64 1, .slice none 0 0, .slice (some ⟨w.heap.size, 0, none⟩) 1 1, .slice none 0 0, .slice (some ⟨w.heap.size + 1, 0, none⟩) 1 1, .slice none 0 0, .slice none 0 0, .slice none 0 0, .string ⟨#[]⟩] 27) := ⟨_, rfl⟩
  obtain ⟨X, hX⟩ : ∃ X, X = v2.heap.size := ⟨_, rfl⟩
  have hx : Blk v X (ccells exD (exF w.heap.size (w.heap.size + 1))) := by rw [hv, hX]; exact blk_new _ _ _
  have hb : Below v2.heap.size v2 v := by rw [hv]; exact q _ _
  have HI := Lib.hid (ex_in (HA.out.on hb) (HB.out.on hb))
  have HBV := Lib.hid (HBE.out.trans (hb.mono HBE.out.size))
  have HX := Lib.hid hx
  rw [← hv, ← hX]
  have c0 : v.cell? ⟨X, 0, none⟩ = some (.int .i64 1) := (hx.cell 0).1
  have c1 : v.cell? ⟨X, 1, none⟩ = some (.slice none 0 0) := (hx.cell 1).1
  have c2 : v.cell? ⟨X, 2, none⟩ = some (.slice (some ⟨w.heap.size, 0, none⟩) 1 1) := (hx.cell 2).1
  have c3 : v.cell? ⟨X, 3, none⟩ = some (.slice none 0 0) := (hx.cell 3).1
  have c4 : v.cell? ⟨X, 4, none⟩ = some (.slice (some ⟨w.heap.size + 1, 0, none⟩) 1 1) := (hx.cell 4).1
  have c5 : v.cell? ⟨X, 5, none⟩ = some (.slice none 0 0) := (hx.cell 5).1
  have c6 : v.cell? ⟨X, 6, none⟩ = some (.slice none 0 0) := (hx.cell 6).1
  have c7 : v.cell? ⟨X, 7, none⟩ = some (.slice none 0 0) := (hx.cell 7).1
  have c8 : v.cell? ⟨X, 8, none⟩ = some (.string ⟨#[]⟩) := (hx.cell 8).1
  have HG := Lib.hid ex_check
  have hXv := hx.lt
  clear s2 hv hX hx hb q HA HB HBE
  go_wp2_with fail
  go_at_call 12; refine (HN.out exD (exF w.heap.size (w.heap.size + 1)) (fun _ => False) _ HI.out ex_fits ex_lens HG.out).mono ?_; rintro e w2 ⟨nv, av, rfl, hk, hi, hb2⟩
  rw [ex_net] at hk hi
  simp only at hk hi
  obtain ⟨na, ncap, rfl, l1, l2⟩ := hk.form
  unfold maxLen at l2
  have HKN := Lib.hid hk
  have HAV := Lib.hid hi
  have HB2 := Lib.hid hb2
  replace c0 := (hb2.cell (p := ⟨X, 0, none⟩) hXv).trans c0
  replace c1 := (hb2.cell (p := ⟨X, 1, none⟩) hXv).trans c1
  replace c2 := (hb2.cell (p := ⟨X, 2, none⟩) hXv).trans c2
  replace c3 := (hb2.cell (p := ⟨X, 3, none⟩) hXv).trans c3
  replace c4 := (hb2.cell (p := ⟨X, 4, none⟩) hXv).trans c4
  replace c5 := (hb2.cell (p := ⟨X, 5, none⟩) hXv).trans c5
  replace c6 := (hb2.cell (p := ⟨X, 6, none⟩) hXv).trans c6
  replace c7 := (hb2.cell (p := ⟨X, 7, none⟩) hXv).trans c7
  replace c8 := (hb2.cell (p := ⟨X, 8, none⟩) hXv).trans c8
  clear hk hi hb2
  go_wp2_with fail
  go_at_call 8; refine (HK.out exD (exF w.heap.size (w.heap.size + 1)) (fun _ => False) _ (HI.out.on HB2.out) ex_fits ex_lens).mono ?_; rintro e w3 ⟨rfl, hb3⟩
  rw [ex_check]
  obtain ⟨b, off, rfl, -, e0, -⟩ := (HKN.out.on hb3).at_ (show 0 < [((-1 : Int), (0 : Int))].length by decide)
  have HB3 := Lib.hid hb3
  have e0 : w3.cell? ⟨b, off, none⟩ = some (.int .i64 (-1)) := e0
  have HBE : Hid (∀ u, Below w3.heap.size w3 u → Below w.heap.size w u) := Lib.hid (fun u hu => HBV.out.trans (((HB2.out.trans (HB3.out.mono HB2.out.size)).trans (hu.mono (by have := HB2.out.size; have := HB3.out.size; omega))).mono HBV.out.size))
  have HLIT := Lib.hid (ints_two w3 0 2)
  have HAV3 := Lib.hid ((HAV.out.on hb3).on ((Below.refl w3.heap.size w3).alloc (Nat.le_refl _) (.cells #[.int .i64 0, .int .i64 2] 3)))
  clear hb3 c0 c1 c2 c3 c4 c5 c6 c7 c8
  go_wp2_with fail
  go_at_call 14; refine (refInts_of (b := true) (by decide) _ HAV3.out HLIT.out).mono ?_; rintro e w4 ⟨rfl, hb4⟩
  have HT : Hid (SaysW true w (.returned (.bool true)) w4) := Lib.hid ⟨rfl, HBE.out _ (((Below.refl w3.heap.size w3).alloc (Nat.le_refl _) _).trans (hb4.mono (by simp)))⟩
  clear hb4
  go_wp2_with fail
  go_ret
  exact HT.out
end Go.Proofs.Ytbpjflghkkkenaa.row

/- Check, and Order. -/
namespace Go.Proofs.Ytbpjflghkkkenaa.row
set_option maxRecDepth 100000
open Go.RowKit
open Go.Proofs.Ytbpjflghkkkenaa.ints (Ints ints_of_owned)

set_option maxHeartbeats 1600000 in
theorem check_any (D : CD) (F : CF) (P : Nat → Prop) (w : World) (hc : InC P w D F) (hl : Lens D) : Calls Try.prog 8 #[cval D F] w (SaysI (checkF D) w) := by
  have B0 : Below w.heap.size w (w.alloc (.cells (ccells D F) 27)) := (Below.refl _ _).alloc (Nat.le_refl _) _
  have HB := Lib.hid B0
  have HK := Lib.hid (look_any D F P _ (hc.on B0) hl)
  clear B0 hc hl
  go_enter Try.func8, Try.ntmps8
  go_wp2_with fail
  go_at_call 21; refine HK.out.mono ?_; rintro e w1 ⟨ov, rfl, -, b1⟩
  have HE : Hid (SaysI (checkF D) w (.returned (.int .i64 (checkF D))) w1) := Lib.hid ⟨rfl, HB.out.trans (b1.mono HB.out.size)⟩
  clear b1
  go_wp2_with fail
  go_ret
  exact HE.out
set_option maxHeartbeats 1600000 in
theorem order_any (D : CD) (F : CF) (P : Nat → Prop) (w : World) (hc : InC P w D F) (hl : Lens D) (hz : checkF D = 0) : Calls Try.prog 15 #[cval D F] w (TellsR (orderL D.gates) w) := by
  have B0 : Below w.heap.size w (w.alloc (.cells (ccells D F) 27)) := (Below.refl _ _).alloc (Nat.le_refl _) _
  have HB := Lib.hid B0
  have HK := Lib.hid (look_any D F P _ (hc.on B0) hl)
  have HZ := Lib.hid hz
  clear B0 hc hl hz
  go_enter Try.func15, Try.ntmps15
  go_wp2_with fail
  go_at_call 21; refine HK.out.mono ?_; rintro e w1 ⟨ov, rfl, ho, b1⟩
  have HE : Hid (TellsR (orderL D.gates) w (.returned ov) w1) := Lib.hid ⟨ov, rfl, ints_of_owned (ho HZ.out), HB.out.trans (b1.mono HB.out.size)⟩
  clear ho b1
  go_wp2_with fail
  go_ret
  exact HE.out
end Go.Proofs.Ytbpjflghkkkenaa.row

/- follow, and Net's put. -/
namespace Go.Proofs.Ytbpjflghkkkenaa.row
set_option maxRecDepth 100000
open Go.RowKit
open Go.Proofs.Ytbpjflghkkkenaa.aig (Only KNds infoN nodeCells nodeCells_len nodeCells_snoc)
open Go.Proofs.Ytbpjflghkkkenaa.fns Go.Proofs.Ytbpjflghkkkenaa.heap
open Go.Proofs.Ytbpjflghkkkenaa.ints (Ints ints_of_owned below_drewN)

theorem Neg_q {l : Int} {b : Bool} (h : litNeg l = b) (w : World) : Calls Try.prog 49 #[.int .i64 l] w fun e w' => e = .returned (.bool b) ∧ w' = w := by
  subst h; exact (lits.Neg_any l w).mono fun _ _ h => ⟨h.1, h.2.symm⟩
theorem Of_q {z y : Int} (h : litOf z false = y) (w : World) : Calls Try.prog 27 #[.int .i64 z, .bool false] w fun e w' => e = .returned (.int .i64 y) ∧ w' = w := by
  subst h; exact (lits.Of_any z false w).mono fun _ _ h => ⟨h.1, h.2.symm⟩
set_option maxHeartbeats 1600000 in
theorem follow_any (G q : Nat) (zs : List Int) (l : Int) (w : World) (hg : Blk w G (intA zs)) (hq : zs.length = q) (hl : 0 ≤ l ∧ l ≤ 33554433) (hi : (l / 2).toNat < zs.length) (hy : 0 ≤ zs.getD (l / 2).toNat 0 ∧ zs.getD (l / 2).toNat 0 ≤ 33554433) :
    Calls Try.prog 29 #[.slice (some ⟨G, 0, none⟩) q q, .int .i64 l] w fun e w' => e = .returned (.int .i64 (litP zs l)) ∧ w' = w := by
  obtain ⟨v, hv⟩ : ∃ v : Nat, l / 2 = (v : Int) := ⟨(l / 2).toNat, by omega⟩
  rw [hv, Int.toNat_natCast] at hi hy
  have hc := ((hg.cell v).1).trans (intA_at hi 0)
  have lG := hg.lt
  obtain ⟨y, hye⟩ : ∃ y, y = zs.getD v 0 := ⟨_, rfl⟩
  have hP : litP zs l = if l % 2 = 1 then y + 1 - 2 * (y % 2) else y := by unfold litP; rw [hv, Int.toNat_natCast, ← hye]
  rw [← hye] at hc hy
  have HVV : Hid (litVar l = (v : Int)) := Lib.hid (by rw [var_of hl, hv])
  have d1 : (v : Int) < (q : Int) := by omega
  have d2 : 0 ≤ (v : Int) := by omega
  have gl := good_yes hl.1 hl.2
  have gy := good_yes hy.1 hy.2
  by_cases ho : l % 2 = 1
  · have HN := Lib.hid (neg_odd gl ho)
    have HR : Hid (litNot y = litP zs l) := Lib.hid (by
      rw [hP, if_pos ho]
      by_cases h1 : y % 2 = 1
      · rw [not_odd gy h1]; omega
      · rw [not_even gy (by omega)]; omega)
    clear hg hq hl hi hy hye hP hv ho gl gy
    go_enter Try.func29, Try.ntmps29
    go_wp2_with fail
    go_at_call 28; refine (Var_q HVV.out w).mono ?_; rintro e w' ⟨rfl, rfl⟩
    go_wp2_with fail
    go_at_call 49; refine (Neg_q HN.out w').mono ?_; rintro e w2 ⟨rfl, rfl⟩
    go_wp2_with fail
    go_at_call 50; refine (lits.Not_any y _).mono ?_; rintro e w3 ⟨rfl, rfl⟩
    rw [HR.out]
    go_wp2_with fail
    go_ret
    exact ⟨rfl, rfl⟩
  · have HN := Lib.hid (neg_even gl (by omega))
    have HR : Hid (y = litP zs l) := Lib.hid (by rw [hP, if_neg ho])
    clear hg hq hl hi hy hye hP hv ho gl gy
    go_enter Try.func29, Try.ntmps29
    go_wp2_with fail
    go_at_call 28; refine (Var_q HVV.out w).mono ?_; rintro e w' ⟨rfl, rfl⟩
    go_wp2_with fail
    go_at_call 49; refine (Neg_q HN.out w').mono ?_; rintro e w2 ⟨rfl, rfl⟩
    go_wp2_with fail
    go_ret
    exact ⟨by rw [← HR.out]; rfl, rfl⟩
/-- two lists that grow, in the variables N and Lc of a function; the blocks of Kp are left alone -/
structure Ns (Kp : Nat → Prop) (W N Lc G q : Nat) (s : NS) (w : World) : Prop where
  nb : ∃ nv, Blk w N #[nv] ∧ w.ownsRow W 42 2 nv s.1.length (nodeCells s.1) ∧ ∀ k, nv.ownBlock = some k → k ≠ N ∧ k ≠ Lc ∧ k ≠ G ∧ ¬ Kp k
  lb : Blk w Lc #[.slice (some ⟨G, 0, none⟩) q q]
  g : Blk w G (intA s.2)
  len : s.2.length = q
  ne : N ≠ Lc ∧ N ≠ G ∧ Lc ≠ G
  low : W ≤ N ∧ W ≤ Lc ∧ W ≤ G
  kp : ∀ k, Kp k → k ≠ N ∧ k ≠ Lc ∧ k ≠ G ∧ k < w.heap.size
theorem own_only2 {Q : Nat → Prop} {w w' : World} {B sz m : Nat} {e : TypeId} {v : Value} {xs : List Value} (h : w.ownsRow B e sz v m xs) (hq : ∀ k, v.ownBlock = some k → ¬ Q k) (o : Only Q w w') : w'.ownsRow B e sz v m xs := by
  refine ⟨h.1, ?_⟩
  rcases h.2 with ⟨e1, e2⟩ | ⟨g', cap, cur, rfl, h1, h2, h3⟩
  · exact .inl ⟨e1, e2⟩
  · exact .inr ⟨g', cap, cur, rfl, h1, (o.block g' (Array.getElem?_eq_some_iff.1 h2).1 (hq g' rfl)).trans h2, h3⟩
theorem Ns.on {Kp : Nat → Prop} {W N Lc G q : Nat} {s : NS} {w w' : World} (h : Ns Kp W N Lc G q s w) (hb : Below w.heap.size w w') : Ns Kp W N Lc G q s w' := by
  obtain ⟨nv, n1, n2, n3⟩ := h.nb
  exact ⟨⟨nv, n1.on hb, own_only2 (Q := fun _ => False) n2 (fun _ _ => id) (only_of hb), n3⟩, h.lb.on hb, h.g.on hb, h.len, h.ne, h.low, fun k hk => by obtain ⟨a, b, c, d⟩ := h.kp k hk; exact ⟨a, b, c, Nat.lt_of_lt_of_le d hb.size⟩⟩
/-- a list of nodes has grown, and is stored -/
theorem Ns.add {Kp : Nat → Prop} {W N Lc G q : Nat} {s : NS} {w w' : World} {nv v' : Value} {a b : Int} (h : Ns Kp W N Lc G q s w) (h1 : Blk w N #[nv]) (h3 : ∀ k, nv.ownBlock = some k → k ≠ N ∧ k ≠ Lc ∧ k ≠ G ∧ ¬ Kp k)
    (hown : w'.ownsRow W 42 2 v' (s.1 ++ [(a, b)]).length (nodeCells (s.1 ++ [(a, b)]))) (hgrow : w.grownBy w' nv.ownBlock) (hn : ∀ k, v'.ownBlock = some k → nv.ownBlock = some k ∨ w.heap.size ≤ k) :
    Ns Kp W N Lc G q (s.1 ++ [(a, b)], s.2) (w'.setCell ⟨N, 0, none⟩ v') ∧ Only (fun k => ¬ Kp k) w (w'.setCell ⟨N, 0, none⟩ v') := by
  have o1 : Only (fun k => nv.ownBlock = some k) w w' := only_grown (only_refl _ _) hgrow (fun k hk => .inl hk)
  have o2 : Only (fun k => k = N) w' (w'.setCell ⟨N, 0, none⟩ v') := only_set (P := fun k => k = N) rfl _
  obtain ⟨f1, f2, f3⟩ := h.ne
  have l1 := h1.lt; have l2 := h.lb.lt; have l3 := h.g.lt
  have nv' : ∀ k, v'.ownBlock = some k → k ≠ N ∧ k ≠ Lc ∧ k ≠ G ∧ ¬ Kp k := by
    intro k hk
    rcases hn k hk with e | e
    · exact h3 k e
    · exact ⟨by omega, by omega, by omega, fun e2 => by have := (h.kp k e2).2.2.2; omega⟩
  refine ⟨⟨⟨v', blk_set (h1.only (fun e => (h3 _ e).1 rfl) o1) v', own_only2 hown (fun k hk e => (nv' k hk).1 e) o2, nv'⟩, (h.lb.only (fun e => (h3 _ e).2.1 rfl) o1).only (fun e => f1 e.symm) o2, (h.g.only (fun e => (h3 _ e).2.2.1 rfl) o1).only (fun e => f2 e.symm) o2, h.len, h.ne, h.low, fun k hk => ?_⟩, ?_⟩
  · obtain ⟨a1, a2, a3, a4⟩ := h.kp k hk
    exact ⟨a1, a2, a3, Nat.lt_of_lt_of_le a4 (Nat.le_trans o1.size o2.size)⟩
  · refine ⟨o2.os.trans o1.os, o2.tape.trans o1.tape, o2.output.trans o1.output, Nat.le_trans o1.size o2.size, fun k hk hn => ?_⟩
    have hkp : Kp k := Classical.not_not.1 hn
    exact (o2.block k (Nat.lt_of_lt_of_le hk o1.size) (h.kp k hkp).1).trans (o1.block k hk (fun e => (h3 k e).2.2.2 hkp))
theorem Ns.put {Kp : Nat → Prop} {W N Lc G q : Nat} {s : NS} {w : World} (h : Ns Kp W N Lc G q s w) (i : Nat) (x : Int) : Ns Kp W N Lc G q (s.1, s.2.set i x) (w.setCell ⟨G, i, none⟩ (.int .i64 x)) ∧ Only (fun k => ¬ Kp k) w (w.setCell ⟨G, i, none⟩ (.int .i64 x)) := by
  have o : Only (fun k => k = G) w (w.setCell ⟨G, i, none⟩ (.int .i64 x)) := only_set (P := fun k => k = G) rfl _
  obtain ⟨nv, n1, n2, n3⟩ := h.nb
  obtain ⟨f1, f2, f3⟩ := h.ne
  refine ⟨⟨⟨nv, n1.only f2 o, own_only2 n2 (fun k hk e => (n3 k hk).2.2.1 e) o, n3⟩, h.lb.only f3 o, ?_, by rw [List.length_set]; exact h.len, h.ne, h.low, fun k hk => by obtain ⟨a, b, c, d⟩ := h.kp k hk; exact ⟨a, b, c, Nat.lt_of_lt_of_le d o.size⟩⟩, ⟨o.os, o.tape, o.output, o.size, fun k hk hn => o.block k hk (h.kp k (Classical.not_not.1 hn)).2.2.1⟩⟩
  have := h.g.put i (.int .i64 x)
  rwa [intA_set] at this
/-- what put leaves -/
def Putted (Kp : Nat → Prop) (W N Lc G q : Nat) (s : NS) (w w' : World) : Prop := Ns Kp W N Lc G q s w' ∧ Only (fun k => ¬ Kp k) w w'
set_option maxHeartbeats 3200000 in
theorem netPut_any (Kp : Nat → Prop) (W N Lc G q : Nat) (s : NS) (w : World) (l a b : Int) (h : Ns Kp W N Lc G q s w) (hl : 0 ≤ l ∧ l ≤ 33554433) (hi : (l / 2).toNat < q) (hn : s.1.length ≤ 100000) :
    Calls Try.prog 26 #[.int .i64 l, .agg #[.int .i64 a, .int .i64 b], .pointer (some ⟨N, 0, none⟩), .pointer (some ⟨Lc, 0, none⟩)] w
      fun e w' => e = .returned (.tuple #[]) ∧ Putted Kp W N Lc G q (s.1 ++ [(a, b)], s.2.set (l / 2).toNat (2 * ((s.1.length : Int) + 1))) w w' := by
  obtain ⟨i0, hi0, hz0, hz1, hz2⟩ := info_parts infoN
  have hY : Below w.heap.size w (w.alloc (.cells #[.int .i64 a, .int .i64 b] 42)) := (Below.refl _ _).alloc (Nat.le_refl _) _
  obtain ⟨v, hv⟩ : ∃ v : Nat, l / 2 = (v : Int) := ⟨(l / 2).toNat, by omega⟩
  rw [hv, Int.toNat_natCast] at hi ⊢
  obtain ⟨ww, hww⟩ : ∃ ww, ww = 2 * ((s.1.length : Int) + 1) := ⟨_, rfl⟩
  rw [← hww]
  have HWW := Lib.hid hww
  have HVV : Hid (litVar l = (v : Int)) := Lib.hid (by rw [var_of hl, hv])
  have HI := Lib.hid hi
  have HLN := Lib.hid hn
  have hlow := h.low
  have hNl : N < w.heap.size := h.nb.choose_spec.1.lt
  have h1 := h.on hY
  have HYB := Lib.hid (blk_new w #[.int .i64 a, .int .i64 b] 42)
  have HO1 : Hid (Only (fun k => ¬ Kp k) w (w.alloc (.cells #[.int .i64 a, .int .i64 b] 42))) := Lib.hid (only_of hY)
  obtain ⟨w1, hw1⟩ : ∃ w1, w1 = w.alloc (.cells #[.int .i64 a, .int .i64 b] 42) := ⟨_, rfl⟩
  obtain ⟨Y, hYY⟩ : ∃ Y, Y = w.heap.size := ⟨_, rfl⟩
  have HW1 := Lib.hid hw1
  have HYY := Lib.hid hYY
  rw [← hw1] at h1 HYB HO1
  rw [← hYY] at HYB
  have hb2 : Below w1.heap.size w1 (w1.alloc (.cells #[.int .i64 a, .int .i64 b] 42)) := (Below.refl _ _).alloc (Nat.le_refl _) _
  have h2 := h1.on hb2
  obtain ⟨nv, n1, n2, n3⟩ := h2.nb
  have n1' : Blk w1 N #[nv] := by
    obtain ⟨nv', m1, -, -⟩ := h1.nb
    have := ((m1.on hb2).cell 0).1.symm.trans (n1.cell 0).1
    have e : nv' = nv := by simpa using this
    rw [← e]; exact m1
  have c0 : w1.cell? ⟨N, 0, none⟩ = some nv := (n1'.cell 0).1
  have HO2 : Hid (Only (fun k => ¬ Kp k) w1 (w1.alloc (.cells #[.int .i64 a, .int .i64 b] 42))) := Lib.hid (only_of hb2)
  have H2 := Lib.hid h2
  have HN1 := Lib.hid n1
  have HN2 := Lib.hid n2
  have HN3 := Lib.hid n3
  have y0 : w1.cell? ⟨Y, 0, none⟩ = some (.int .i64 a) := (HYB.out.cell 0).1
  have y1 : w1.cell? ⟨Y, 1, none⟩ = some (.int .i64 b) := (HYB.out.cell 1).1
  have lY := HYB.out.lt
  have lN := n1'.lt
  have hlw : W ≤ w1.heap.size := by omega
  clear h h1 h2 n1 n2 n3 n1' hw1 hYY hY hb2 hv hi hNl hww
  go_enter Try.func26, Try.ntmps26
  go_upto_region 1 with fail
  rw [← HW1.out, ← HYY.out]
  go_cut [] (fun wx => Hid (Ns Kp W N Lc G q (s.1 ++ [(a, b)], s.2) wx ∧ Only (fun k => ¬ Kp k) w wx))
  case first =>
    go_wp2_with (at_builtin; refine wpList_append_lies _ rfl _ _ 35 rfl W 42 i0 _ 2 16 Try.underlying35 hi0 hz0 hz1 hz2 rfl (by decide) nv s.1.length (nodeCells s.1) rfl HN2.out ⟨w1.heap.size, 0, none⟩ 1 1 [.int .i64 a, .int .i64 b] rfl rfl (World.news_of_block (show (w1.heap.push _)[w1.heap.size]? = _ by rw [Array.getElem?_push, if_pos rfl])) (fun u hu => by simp at hu; rcases hu with rfl | rfl <;> rfl) (by decide) (by unfold maxLen; omega) (by omega) (by simp; omega) _ rfl ?_)
    intro t c w3 hown hgrow hat hlt
    have hown2 : w3.ownsRow W 42 2 (.slice (some ⟨t, 0, none⟩) (s.1.length + 1) c) (s.1 ++ [(a, b)]).length (nodeCells (s.1 ++ [(a, b)])) := by
      rw [nodeCells_snoc] at hown
      rw [List.length_append, List.length_singleton]; exact hown
    have hadd := H2.out.add HN1.out HN3.out hown2 hgrow (fun k hk => by
      obtain rfl : t = k := by simpa [Value.ownBlock] using hk
      exact hat.imp id (fun e => by rw [e]; simp))
    have HE := Lib.hid hadd.1
    have HEO := Lib.hid (only_tr HO1.out (only_tr HO2.out hadd.2))
    have hne : some N ≠ nv.ownBlock := fun e => (HN3.out _ e.symm).1 rfl
    obtain ⟨d5, df⟩ := HN1.out.cell 0
    have hgl := HN1.out.lt
    have c3 := (hgrow.cell_far ⟨N, 0, none⟩ hgl hne).trans d5
    have f3 := (hgrow.frozen_far ⟨N, 0, none⟩ hgl hne).trans df
    clear hown hown2 hgrow hat hne d5 df hadd c0 y0 y1
    go_wp2_with fail
    go_meet
    exact ⟨HE.out, HEO.out⟩
  case rest =>
    clear c0 y0 y1 lY lN HN1 HN2 HN3 H2 HO1 HO2 HYB
    obtain ⟨h3, o3⟩ := hcut.out
    obtain ⟨wo, rfl⟩ : ∃ wo : World, wo = wc := ⟨_, rfl⟩
    have h4 := h3.on ((Below.refl wo.heap.size wo).drew)
    obtain ⟨nv2, m1, m2, -⟩ := h4.nb
    obtain ⟨na, nc, hnv⟩ := owns_form m2
    subst hnv
    have z0 : wo.drew.cell? ⟨N, 0, none⟩ = some (.slice na (s.1.length + 1) nc) := by
      have := (m1.cell 0).1
      simpa using this
    have z1 : wo.drew.cell? ⟨Lc, 0, none⟩ = some (.slice (some ⟨G, 0, none⟩) q q) := (h4.lb.cell 0).1
    obtain ⟨z2, z3⟩ := h4.g.cell v
    have hq4 : s.2.length = q := h4.len
    have z4 := z2.trans (intA_at (zs := s.2) (by have := HI.out; omega) 0)
    obtain ⟨yy, hyy⟩ : ∃ yy, yy = s.2.getD v 0 := ⟨_, rfl⟩
    rw [← hyy] at z4
    have l1 := m1.lt
    have l2 := h4.lb.lt
    have l3 := h4.g.lt
    obtain ⟨nn, hnn⟩ : ∃ nn, nn = s.1.length + 1 := ⟨_, rfl⟩
    rw [← hnn] at z0
    have HOF : Hid (litOf (nn : Int) false = ww) := Lib.hid (by rw [of_pos (by omega) (by omega), hnn, HWW.out]; omega)
    have hp := h4.put v ww
    have HE := Lib.hid hp.1
    have HEO := Lib.hid (only_tr (only_drew o3) hp.2)
    have v1 : (v : Int) < (q : Int) := by have := HI.out; omega
    have v2 : 0 ≤ (v : Int) := by omega
    clear h3 o3 hcut h4 m1 m2 z2 hyy hnn hp hq4
    go_upto_region 2 with fail
    refine wp_region_still_tail 7 (by kernel_rfl) (by kernel_rfl) ?_
    simp only [List.take_succ_cons, List.take_zero, List.drop_succ_cons, List.drop_zero]
    generalize hW : ({ heap := wo.heap, tape := wo.tape, drawn := wo.drawn + 1, os := wo.os, output := wo.output } : World) = V
    have hWD : wo.drew = V := hW
    rw [hWD] at z0 z1 z3 z4 l1 l2 l3 HE HEO
    clear hW hWD
    repeat (first | still_step | (refine wpStill_step (fun K hK => ?_); go_simp; refine ⟨_, Var_q HVV.out V, hK _ ?_⟩; clear hK K) | (refine wpStill_step (fun K hK => ?_); go_simp; refine ⟨_, Of_q HOF.out V, hK _ ?_⟩; clear hK K))
    refine wpStill_nil ?_
    go_wp2_with fail
    go_end0
    exact ⟨rfl, HE.out, HEO.out⟩
end Go.Proofs.Ytbpjflghkkkenaa.row
