import Derived.Test.YtbpjflghkkkenaaMg12
import Derived.Test.YtbpjflghkkkenaaMg13
import Derived.Test.YtbpjflghkkkenaaMg6
/- The queue of places: a heap in a row of its own. -/
namespace Go.Proofs.Ytbpjflghkkkenaa.row
set_option maxRecDepth 100000
open Go.RowKit
open Go.Proofs.Ytbpjflghkkkenaa.aig (Only)
open Go.Proofs.Ytbpjflghkkkenaa.heap Go.Proofs.Ytbpjflghkkkenaa.hpf

theorem infH : (Try.prog.info? 93).map (fun i => (i.zero, i.size, i.bytes)) = some (some (.pointer none), 1, 8) := by kernel_rfl
/-- a row of one pointer, that may have room -/
def Bq (w : World) (bq : Nat) (x : Value) : Prop := ∃ (cs : Array Value) (t : TypeId), w.heap[bq]? = some (.cells cs t (0, 0)) ∧ cs[0]? = some x
theorem Bq.only {P : Nat → Prop} {w w' : World} {bq : Nat} {x : Value} (h : Bq w bq x) (hn : ¬ P bq) (o : Only P w w') : Bq w' bq x := by
  obtain ⟨cs, t, h1, h2⟩ := h
  exact ⟨cs, t, (o.block bq (Array.getElem?_eq_some_iff.1 h1).1 hn).trans h1, h2⟩
theorem Bq.on {w w' : World} {bq : Nat} {x : Value} (h : Bq w bq x) (hb : Below w.heap.size w w') : Bq w' bq x := h.only (P := fun _ => False) id (only_of hb)
theorem Bq.cell {w : World} {bq : Nat} {x : Value} (h : Bq w bq x) : w.cell? ⟨bq, 0, none⟩ = some x ∧ bq < w.heap.size := by
  obtain ⟨cs, t, h1, h2⟩ := h
  exact ⟨(Joins.cell_of_block h1 0).trans h2, (Array.getElem?_eq_some_iff.1 h1).1⟩
theorem no_key (n : Nat) : AllW (List.replicate n 0) := by
  intro i
  rw [rep_getD]; unfold fns.W64; omega
/-- a new queue of n places, at least one -/
def NewQ (n : Nat) (w : World) (e : Ending) (w' : World) : Prop := ∃ bq cap g s p B, e = .returned (.slice (some ⟨bq, 0, none⟩) 1 cap) ∧ 1 ≤ cap ∧ cap ≤ maxLen ∧ B ≤ bq ∧ Bq w' bq (.pointer (some ⟨g, 0, none⟩)) ∧
  Hp w.heap.size B w' g s p (.slice none 0 0) n (List.replicate n 0) (List.replicate n 0) [] ∧ Below w.heap.size w w'
set_option maxHeartbeats 3200000 in
theorem newQueue_any (n : Nat) (w : World) (h1 : 1 ≤ n) (h2 : n ≤ 1000) : Calls Try.prog 61 #[.int .i64 (n : Int)] w (NewQ n w) := by
  obtain ⟨i0, hi, hz0, hz1, hz2⟩ := info_parts infH
  have HN := Lib.hid (New_any n w (by omega))
  have m1 : min (n : Int) 1048576 = (n : Int) := by omega
  have d1 : 0 < (n : Int) := by omega
  have d2 : (n : Int) - 1048576 ≤ 0 := by omega
  have d3 : decide (0 < (n : Int) - 1048576) = false := by simp; omega
  have d4 : 0 < n := by omega
  have d5 : n ≤ 1048576 := by omega
  have d6 : (n : Int) ≤ 1048576 := by omega
  go_enter Try.func61, Try.ntmps61
  go_wp2_with fail
  go_loopw [0, 3] (fun i q wr => (i = .int .i64 (n : Int) ∧ q = .slice none 0 0 ∧ wr = w) ∨ (i = .int .i64 ((n : Int) - 1048576) ∧ Hid (NewQ n w (.returned q) wr))) (fun i _ _ => (intOf i).toNat)
  case atStart => exact .inl ⟨rfl, rfl, rfl⟩
  case round =>
    rcases hrel with ⟨rfl, rfl, rfl⟩ | ⟨rfl, HE⟩
    · obtain ⟨wo, rfl⟩ : ∃ wo : World, wo = wr := ⟨_, rfl⟩
      go_wp2_with fail
      go_at_call 73; refine HN.out.mono ?_; rintro e w1 ⟨g, s, p, B, rfl, hp, hb⟩
      have hsz := hb.size
      have HP := Lib.hid hp
      have HB := Lib.hid hb
      have HA : Hid (Below w1.heap.size w1 (w1.alloc (.cells #[.pointer (some ⟨g, 0, none⟩)] 93))) := Lib.hid ((Below.refl _ _).alloc (Nat.le_refl _) _)
      have HZ : Hid ((w1.alloc (.cells #[.pointer (some ⟨g, 0, none⟩)] 93)).ownsRow B 93 1 (.slice none 0 0) 0 []) := Lib.hid (World.ownsRow_nil _ _ _ _)
      have HBW : Hid (B ≤ w1.heap.size) := Lib.hid hp.low.2.2.2.2
      clear hp hb
      go_wp2_with (at_builtin; refine wpList_append_lies _ rfl _ _ 80 rfl B 93 i0 (.pointer none) 1 8 Try.underlying80 hi hz0 hz1 hz2 rfl (by decide) (.slice none 0 0) 0 [] rfl HZ.out ⟨w1.heap.size, 0, none⟩ 1 1 [.pointer (some ⟨g, 0, none⟩)] rfl rfl (news1 _ _ _) (fun u hu => by rw [List.mem_singleton.1 hu]; rfl) (by decide) (by unfold maxLen; omega) (by omega) (by have := HBW.out; simp; omega) _ rfl ?_)
      intro t c w2 hown hgrow hat hlt
      have HE : Hid (NewQ n wo (.returned (.slice (some ⟨t, 0, none⟩) 1 c)) w2) := Lib.hid (by
        have hb2 : Below (w1.alloc (.cells #[.pointer (some ⟨g, 0, none⟩)] 93)).heap.size (w1.alloc (.cells #[.pointer (some ⟨g, 0, none⟩)] 93)) w2 := ⟨hgrow.os, hgrow.tape, hgrow.output, hgrow.size, fun k hk => hgrow.block k hk (by simp [Value.ownBlock])⟩
        have hb3 : Below w1.heap.size w1 w2 := HA.out.trans (hb2.mono HA.out.size)
        rcases hown.2 with ⟨e, -⟩ | ⟨g', cap, cur, e, e1, e2, e3, e4, e5, e6⟩
        · cases e
        · cases e
          refine ⟨t, c, g, s, p, B, rfl, e3, e4, e1, ⟨cur, _, e2, ?_⟩, HP.out.on hb3, HB.out.trans (hb3.mono HB.out.size)⟩
          have h0 : cur.toList[0]? = some (Value.pointer (some ⟨g, 0, none⟩)) := by
            have e7 := congrArg (fun l : List Value => l[0]?) e6
            simpa using e7
          simpa using h0)
      clear hown hgrow hat hlt
      go_wp2_with fail
      go_roundw
      case rel => exact .inr ⟨by go_num, HE⟩
      case measure => simp [intOf]; omega
    · go_wp2_with fail
      go_ret
      exact HE.out
set_option maxHeartbeats 1600000 in
theorem newQueue_none (w : World) : Calls Try.prog 61 #[.int .i64 0] w fun e w' => e = .returned (.slice none 0 0) ∧ w' = w := by
  go_enter Try.func61, Try.ntmps61
  go_wp2_with fail
  go_loopw [0, 3] (fun i q wr => i = .int .i64 0 ∧ q = .slice none 0 0 ∧ wr = w) (fun _ _ _ => 0)
  case atStart => exact ⟨rfl, rfl, rfl⟩
  case round =>
    obtain ⟨rfl, rfl, rfl⟩ := hrel
    go_wp2_with fail
    go_ret
    exact ⟨rfl, rfl⟩
theorem nodup_le : ∀ (n : Nat) (l : List Nat), l.Nodup → (∀ y ∈ l, y < n) → l.length ≤ n := by
  intro n
  induction n with
  | zero =>
    intro l _ h
    cases l with
    | nil => simp
    | cons a l => have := h a List.mem_cons_self; omega
  | succ n ih =>
    intro l hl h
    have h2 := ih (l.erase n) (hl.erase n) (fun y hy => by
      have := hl.mem_erase_iff.1 hy
      have := h y this.2
      omega)
    rw [List.length_erase] at h2
    by_cases e : n ∈ l
    · rw [if_pos e] at h2; omega
    · rw [if_neg e] at h2; omega
theorem wf_room {n x : Nat} {P T : List Nat} (h : Wf n P T) (hx : x < n) (h0 : P.getD x 0 = 0) : T.length < n := by
  have gd : ∀ i (hi : i < T.length), T.getD i 0 = T[i] := fun i hi => by simp [List.getD, hi]
  have hnd : (x :: T).Nodup := by
    refine List.nodup_cons.2 ⟨fun hm => ?_, ?_⟩
    · obtain ⟨i, hi, e⟩ := List.getElem_of_mem hm
      have := (h.at_ i hi).2
      rw [gd i hi, e, h0] at this
      omega
    · unfold List.Nodup
      rw [List.pairwise_iff_getElem]
      intro i j hi hj hij e
      have := h.inj hi hj (by rw [gd i hi, gd j hj]; exact e)
      omega
  have := nodup_le n (x :: T) hnd (fun y hy => by
    rcases List.mem_cons.1 hy with rfl | hy
    · exact hx
    · obtain ⟨i, hi, rfl⟩ := List.getElem_of_mem hy
      have := (h.at_ i hi).1
      rwa [gd i hi] at this)
  simp at this
  omega
/-- the queue, with its heap -/
structure Qs (A B : Nat) (w : World) (bq g s p : Nat) (tv : Value) (n : Nat) (P T : List Nat) : Prop where
  row : Bq w bq (.pointer (some ⟨g, 0, none⟩))
  hp : Hp A B w g s p tv n (List.replicate n 0) P T
  ok : Hok n (List.replicate n 0) P T
  ne : ¬ HQ g p tv bq
theorem hp_only {Q : Nat → Prop} {A B : Nat} {w w' : World} {g s p n : Nat} {tv : Value} {S P T : List Nat} (h : Hp A B w g s p tv n S P T) (hg : ¬ Q g) (hs : ¬ Q s) (hp : ¬ Q p) (ht : ∀ k, tv.ownBlock = some k → ¬ Q k) (o : Only Q w w') : Hp A B w' g s p tv n S P T := by
  obtain ⟨ty, ho⟩ := h.obj
  obtain ⟨l1, l2, l3, l4, l5, l6, l7, l8⟩ := h.lay
  have kept : ∀ {B : Nat} {e : TypeId} {v : Value} {m : Nat} {xs : List Value}, w.ownsRow B e 1 v m xs → (∀ k, v.ownBlock = some k → ¬ Q k) → w'.ownsRow B e 1 v m xs := by
    intro B e v m xs ho hq
    refine ⟨ho.1, ?_⟩
    rcases ho.2 with ⟨e1, e2⟩ | ⟨g', cap, cur, rfl, h1, h2, h3⟩
    · exact .inl ⟨e1, e2⟩
    · exact .inr ⟨g', cap, cur, rfl, h1, (o.block g' (Array.getElem?_eq_some_iff.1 h2).1 (hq g' rfl)).trans h2, h3⟩
  exact ⟨⟨ty, (o.block g (by omega) hg).trans ho⟩, kept h.sc (fun k e => by cases e; exact hs), kept h.pl (fun k e => by cases e; exact hp), kept h.tr ht, l1, l2, l3, l4, l5, l6, l7, Nat.le_trans l8 o.size⟩
/-- the blocks of a queue -/
def QB (bq g s p : Nat) (tv : Value) (k : Nat) : Prop := k = bq ∨ k = s ∨ HQ g p tv k
theorem Qs.only {Q : Nat → Prop} {A B : Nat} {w w' : World} {bq g s p n : Nat} {tv : Value} {P T : List Nat} (h : Qs A B w bq g s p tv n P T) (hq : ∀ k, QB bq g s p tv k → ¬ Q k) (o : Only Q w w') : Qs A B w' bq g s p tv n P T :=
  ⟨h.row.only (hq _ (.inl rfl)) o, hp_only h.hp (hq _ (.inr (.inr (.inl rfl)))) (hq _ (.inr (.inl rfl))) (hq _ (.inr (.inr (.inr (.inl rfl))))) (fun _ e => hq _ (.inr (.inr (.inr (.inr e))))) o, h.ok, h.ne⟩
theorem Qs.on {A B : Nat} {w w' : World} {bq g s p n : Nat} {tv : Value} {P T : List Nat} (h : Qs A B w bq g s p tv n P T) (hb : Below w.heap.size w w') : Qs A B w' bq g s p tv n P T := h.only (Q := fun _ => False) (fun _ _ => id) (only_of hb)
theorem Qs.lt {A B : Nat} {w : World} {bq g s p n : Nat} {tv : Value} {P T : List Nat} (h : Qs A B w bq g s p tv n P T) : ∀ k, QB bq g s p tv k → k < w.heap.size := by
  intro k hk
  obtain ⟨l1, l2, l3, l4, l5, l6, l7, l8⟩ := h.hp.lay
  rcases hk with rfl | rfl | rfl | rfl | e
  · exact h.row.cell.2
  · omega
  · omega
  · omega
  · exact (h.hp.tr.lt k e).2
/-- how put leaves it -/
def Put2 (A B : Nat) (bq g s p : Nat) (tv : Value) (n x : Nat) (P T : List Nat) (w w' : World) : Prop :=
  ∃ tv' P' T', Qs A B w' bq g s p tv' n P' T' ∧ Same (P.set x (T.length + 1)) P' ∧ Only (HQ g p tv) w w' ∧ OwnN tv tv' w
def Took2 (A B : Nat) (bq g s p : Nat) (tv : Value) (n x : Nat) (P T : List Nat) (w w' : World) : Prop :=
  ∃ tv' P' T', Qs A B w' bq g s p tv' n P' T' ∧ T'.length + 1 = T.length ∧ Same (P.set x 0) P' ∧ Only (HQ g p tv) w w' ∧ OwnN tv tv' w
theorem qs_ne {bq g p : Nat} {tv tv' : Value} {w : World} (h : ¬ HQ g p tv bq) (hb : bq < w.heap.size) (ho : OwnN tv tv' w) : ¬ HQ g p tv' bq := by
  rintro (e | e | e)
  · exact h (.inl e)
  · exact h (.inr (.inl e))
  · rcases ho _ e with e2 | e2
    · exact h (.inr (.inr e2))
    · omega
set_option maxHeartbeats 1600000 in
theorem put_any (A B bq cap g s p n x : Nat) (tv : Value) (P T : List Nat) (w : World) (h : Qs A B w bq g s p tv n P T) (hx : x < n) (h0 : P.getD x 0 = 0) (hn : n ≤ 1000) (hc : 1 ≤ cap ∧ cap ≤ maxLen) :
    Calls Try.prog 74 #[.slice (some ⟨bq, 0, none⟩) 1 cap, .int .i64 (x : Int)] w fun e w' => e = .returned (.tuple #[]) ∧ Put2 A B bq g s p tv n x P T w w' := by
  obtain ⟨c0, hl⟩ := h.row.cell
  have H := Lib.hid h
  have HP := Lib.hid (Push2_any A B g s p n x tv _ P T w h.hp (no_key n) h.ok hx h0 (wf_room h.ok.wf hx h0) (by omega))
  have q1 : (x : Int) / 1048576 = 0 := by omega
  have q2 : (x : Int) % 1048576 = (x : Int) := by omega
  have q3 : Int.tdiv (x : Int) 1048576 = 0 := by rw [Int.tdiv_eq_ediv_of_nonneg (by omega)]; exact q1
  have q4 : Int.tmod (x : Int) 1048576 = (x : Int) := by rw [Int.tmod_eq_emod_of_nonneg (by omega)]; exact q2
  unfold maxLen at hc
  obtain ⟨hc1, hc2⟩ := hc
  clear h
  go_enter Try.func74, Try.ntmps74
  go_wp2_with fail
  go_at_call 79; refine HP.out.mono ?_; rintro e w1 ⟨rfl, tv', P', T', k1, k2, k3, k4, k5, k6⟩
  have HE : Hid (Put2 A B bq g s p tv n x P T w w1) := Lib.hid ⟨tv', P', T', ⟨H.out.row.only H.out.ne k5, k1, k2, qs_ne H.out.ne H.out.row.cell.2 k6⟩, k4, k5, k6⟩
  clear k1 k2 k3 k4 k5 k6
  go_wp2_with fail
  go_end0
  exact ⟨rfl, HE.out⟩
set_option maxHeartbeats 1600000 in
theorem take_none (A B bq cap g s p n : Nat) (tv : Value) (P : List Nat) (w : World) (h : Qs A B w bq g s p tv n P []) (hc : 1 ≤ cap ∧ cap ≤ maxLen) :
    Calls Try.prog 63 #[.slice (some ⟨bq, 0, none⟩) 1 cap] w fun e w' => e = .returned (.tuple #[.int .i64 0, .bool false]) ∧ w' = w := by
  obtain ⟨c0, hl⟩ := h.row.cell
  have HP := Lib.hid (Pop_none A B g s p n tv _ P w h.hp)
  unfold maxLen at hc
  obtain ⟨hc1, hc2⟩ := hc
  clear h
  go_enter Try.func63, Try.ntmps63
  go_wp2_with fail
  go_loopw [10] (fun i wr => ∃ k : Nat, k ≤ 1 ∧ i = .int .i64 k ∧ wr = w) (fun i _ => 1 - (intOf i).toNat)
  case atStart => exact ⟨0, by omega, rfl, rfl⟩
  case round =>
    obtain ⟨k, hk, rfl, rfl⟩ := hrel
    by_cases e : k = 0
    · subst e
      obtain ⟨wo, rfl⟩ : ∃ wo : World, wo = wr := ⟨_, rfl⟩
      go_wp2_with fail
      go_at_call 75; refine HP.out.mono ?_; rintro e w1 ⟨rfl, rfl⟩
      go_wp2_with fail
      go_roundw
      case rel => exact ⟨1, by omega, by go_num, trivial⟩
      case measure => simp [intOf]
    · obtain rfl : 1 = k := by omega
      go_wp2_with fail
      go_ret2
      exact ⟨rfl, rfl⟩
set_option maxHeartbeats 1600000 in
theorem take_some (A B bq cap g s p n x e : Nat) (tv : Value) (P T : List Nat) (w : World) (h : Qs A B w bq g s p tv n P T) (hc : 1 ≤ cap ∧ cap ≤ maxLen) (hT : T.length = e + 1) (hx : T.getD 0 0 = x) (hTn : T.length ≤ n) (hn : n ≤ 1000) :
    Calls Try.prog 63 #[.slice (some ⟨bq, 0, none⟩) 1 cap] w fun e w' => e = .returned (.tuple #[.int .i64 x, .bool true]) ∧ Took2 A B bq g s p tv n x P T w w' := by
  obtain ⟨c0, hl⟩ := h.row.cell
  have H := Lib.hid h
  have hxn := (h.ok.wf.at_ 0 (by omega)).1
  rw [hx] at hxn
  have HP := Lib.hid (Pop2_any A B g s p n x e tv _ P T w h.hp (no_key n) h.ok hT hx hTn (by omega))
  unfold maxLen at hc
  obtain ⟨hc1, hc2⟩ := hc
  have e1 : IntKind.i64.wrap (0 + (x : Int)) = (x : Int) := by rw [Int.zero_add]; exact IntWalk.i64_in _ (by omega)
  have e2 : IntKind.i64.wrap (x : Int) = (x : Int) := IntWalk.i64_in _ (by omega)
  clear h hx hT
  go_enter Try.func63, Try.ntmps63
  go_wp2_with fail
  go_loopw [10] (fun i wr => i = .int .i64 0 ∧ wr = w) (fun i _ => 0)
  case atStart => exact ⟨rfl, rfl⟩
  case round =>
    obtain ⟨rfl, rfl⟩ := hrel
    obtain ⟨wo, rfl⟩ : ∃ wo : World, wo = wr := ⟨_, rfl⟩
    go_wp2_with fail
    go_at_call 75; refine HP.out.mono ?_; rintro e w1 ⟨rfl, tv', P', T', k1, k2, k3, k4, k5, k6⟩
    have HE : Hid (Took2 A B bq g s p tv n x P T wo w1) := Lib.hid ⟨tv', P', T', ⟨H.out.row.only H.out.ne k5, k1, k2, qs_ne H.out.ne H.out.row.cell.2 k6⟩, k3, k4, k5, k6⟩
    clear k1 k2 k3 k4 k5 k6
    go_wp2_with fail
    go_ret2
    exact ⟨rfl, HE.out⟩
end Go.Proofs.Ytbpjflghkkkenaa.row

/- Of each literal that something has, and of each that is used. (Printed by mkZb.py.) -/
namespace Go.Proofs.Ytbpjflghkkkenaa.row
set_option maxRecDepth 100000
open Go.RowKit
open Go.Proofs.Ytbpjflghkkkenaa.aig (Only)

section
variable {σ α β : Type}
theorem allS_flat (f : σ → α → Bool × σ) (q : β → List α) : ∀ (xs : List β) (s : σ), allS f s (xs.flatMap q) = allS (fun s x => allS f s (q x)) s xs := by
  intro xs
  induction xs with
  | nil => intro s; rfl
  | cons x xs ih =>
    intro s
    rw [List.flatMap_cons, allS_app, allS_cons]
    cases h : (allS f s (q x)).1 with
    | true => simpa using ih (allS f s (q x)).2
    | false => simp
end
def litS {σ : Type} (f : σ → Int → Bool × σ) : σ → Tri → Bool × σ := fun s t => f s t.1
def nextS {σ : Type} (f : σ → Int → Bool × σ) : σ → Tri → Bool × σ := fun s t => f s t.2.1
def pairS {σ : Type} (f : σ → Int → Bool × σ) : σ → Tri → Bool × σ := fun s t => allS f s [t.2.1, t.2.2]
/-- what is used, in the order in which it is looked at -/
def useL (D : CD) : List Int := D.lats.map (fun t => t.2.1) ++ (D.gates.flatMap (fun t => [t.2.1, t.2.2]) ++ (D.outs ++ (D.bads ++ D.cons)))
theorem own_all {σ : Type} (f : σ → Int → Bool × σ) (s : σ) (D : CD) : allS f s (ownedL D) = if (allS f s D.ins).1 = true then (if (allS (litS f) (allS f s D.ins).2 D.lats).1 = true then allS (litS f) (allS (litS f) (allS f s D.ins).2 D.lats).2 D.gates
    else (false, (allS (litS f) (allS f s D.ins).2 D.lats).2)) else (false, (allS f s D.ins).2) := by
  have e1 : ∀ (l : List Tri) (s : σ), allS f s (l.map (fun t => t.1)) = allS (litS f) s l := fun l s => allS_map f _ l s
  have e : ownedL D = D.ins ++ (D.lats.map (fun t => t.1) ++ D.gates.map (fun t => t.1)) := by simp [ownedL]
  rw [e, allS_app, allS_app, e1, e1]
theorem use_all {σ : Type} (f : σ → Int → Bool × σ) (s : σ) (D : CD) : allS f s (useL D) = if (allS (nextS f) s D.lats).1 = true then (if (allS (pairS f) (allS (nextS f) s D.lats).2 D.gates).1 = true then
    (if (allS f (allS (pairS f) (allS (nextS f) s D.lats).2 D.gates).2 D.outs).1 = true then (if (allS f (allS f (allS (pairS f) (allS (nextS f) s D.lats).2 D.gates).2 D.outs).2 D.bads).1 = true then
      allS f (allS f (allS f (allS (pairS f) (allS (nextS f) s D.lats).2 D.gates).2 D.outs).2 D.bads).2 D.cons
      else (false, (allS f (allS f (allS (pairS f) (allS (nextS f) s D.lats).2 D.gates).2 D.outs).2 D.bads).2)) else (false, (allS f (allS (pairS f) (allS (nextS f) s D.lats).2 D.gates).2 D.outs).2)) else (false, (allS (pairS f) (allS (nextS f) s D.lats).2 D.gates).2)) else (false, (allS (nextS f) s D.lats).2) := by
  have e1 : ∀ (l : List Tri) (s : σ), allS f s (l.map (fun t => t.2.1)) = allS (nextS f) s l := fun l s => allS_map f _ l s
  have e2 : ∀ (l : List Tri) (s : σ), allS f s (l.flatMap (fun t => [t.2.1, t.2.2])) = allS (pairS f) s l := fun l s => allS_flat f _ l s
  unfold useL
  rw [allS_app, allS_app, allS_app, allS_app, e1, e2]

set_option maxHeartbeats 800000 in
theorem lift_lat {σ : Type} {P : Nat → Prop} {K : Nat} {caps : Array Value} {R : σ → World → Prop} {dom : Int → Prop} {f : σ → Int → Bool × σ} (h : Acts P K caps (Value.int .i64) R dom f) (X : Nat) (hX : ¬ P X) :
    Acts P 56 #[.pointer (some ⟨X, 0, none⟩)] val3 (fun s w => R s w ∧ Blk w X #[fval K caps]) (fun t => dom t.1) (litS f) := by
  refine ⟨fun s w w' hr hb => ⟨h.on s w w' hr.1 hb, hr.2.on hb⟩, fun _ _ => rfl, fun s x w hr hx => ?_⟩
  show Calls Try.prog 56 #[.agg #[.int .i64 x.1, .int .i64 x.2.1, .int .i64 x.2.2], .pointer (some ⟨X, 0, none⟩)] w fun e w' => e = .returned (.bool (f s x.1).1) ∧ (R (f s x.1).2 w' ∧ Blk w' X #[fval K caps]) ∧ Only P w w'
  have H := Lib.hid h
  have hen := h.enter
  have c0 : w.cell? ⟨X, 0, none⟩ = some (fval K caps) := (hr.2.cell 0).1
  have hXl := hr.2.lt
  have HR := Lib.hid hr
  have HD := Lib.hid hx
  have HP := Lib.hid hX
  have hb : Below w.heap.size w (w.alloc (.cells #[.int .i64 x.1, .int .i64 x.2.1, .int .i64 x.2.2] 45)) := (Below.refl _ _).alloc (Nat.le_refl _) _
  have HR2 := Lib.hid (h.on _ _ _ hr.1 hb)
  have HB2 := Lib.hid (hr.2.on hb)
  have HO : Hid (Only P w (w.alloc (.cells #[.int .i64 x.1, .int .i64 x.2.1, .int .i64 x.2.2] 45))) := Lib.hid (only_of hb)
  clear h hr hx hX hb
  go_enter Try.func56, Try.ntmps56
  go_wp2_with fail
  refine (H.out.run s x.1 _ HR2.out HD.out).mono ?_; rintro e w1 ⟨rfl, r1, o1⟩
  have HX := Lib.hid (And.intro (And.intro r1 (HB2.out.only HP.out o1)) (only_tr HO.out o1))
  clear r1 o1
  go_wp2_with fail
  go_ret
  exact ⟨rfl, HX.out⟩

set_option maxHeartbeats 800000 in
theorem lift_gat {σ : Type} {P : Nat → Prop} {K : Nat} {caps : Array Value} {R : σ → World → Prop} {dom : Int → Prop} {f : σ → Int → Bool × σ} (h : Acts P K caps (Value.int .i64) R dom f) (X : Nat) (hX : ¬ P X) :
    Acts P 58 #[.pointer (some ⟨X, 0, none⟩)] val3 (fun s w => R s w ∧ Blk w X #[fval K caps]) (fun t => dom t.1) (litS f) := by
  refine ⟨fun s w w' hr hb => ⟨h.on s w w' hr.1 hb, hr.2.on hb⟩, fun _ _ => rfl, fun s x w hr hx => ?_⟩
  show Calls Try.prog 58 #[.agg #[.int .i64 x.1, .int .i64 x.2.1, .int .i64 x.2.2], .pointer (some ⟨X, 0, none⟩)] w fun e w' => e = .returned (.bool (f s x.1).1) ∧ (R (f s x.1).2 w' ∧ Blk w' X #[fval K caps]) ∧ Only P w w'
  have H := Lib.hid h
  have hen := h.enter
  have c0 : w.cell? ⟨X, 0, none⟩ = some (fval K caps) := (hr.2.cell 0).1
  have hXl := hr.2.lt
  have HR := Lib.hid hr
  have HD := Lib.hid hx
  have HP := Lib.hid hX
  have hb : Below w.heap.size w (w.alloc (.cells #[.int .i64 x.1, .int .i64 x.2.1, .int .i64 x.2.2] 47)) := (Below.refl _ _).alloc (Nat.le_refl _) _
  have HR2 := Lib.hid (h.on _ _ _ hr.1 hb)
  have HB2 := Lib.hid (hr.2.on hb)
  have HO : Hid (Only P w (w.alloc (.cells #[.int .i64 x.1, .int .i64 x.2.1, .int .i64 x.2.2] 47))) := Lib.hid (only_of hb)
  clear h hr hx hX hb
  go_enter Try.func58, Try.ntmps58
  go_wp2_with fail
  refine (H.out.run s x.1 _ HR2.out HD.out).mono ?_; rintro e w1 ⟨rfl, r1, o1⟩
  have HX := Lib.hid (And.intro (And.intro r1 (HB2.out.only HP.out o1)) (only_tr HO.out o1))
  clear r1 o1
  go_wp2_with fail
  go_ret
  exact ⟨rfl, HX.out⟩

set_option maxHeartbeats 800000 in
theorem lift_nxt {σ : Type} {P : Nat → Prop} {K : Nat} {caps : Array Value} {R : σ → World → Prop} {dom : Int → Prop} {f : σ → Int → Bool × σ} (h : Acts P K caps (Value.int .i64) R dom f) (X : Nat) (hX : ¬ P X) :
    Acts P 59 #[.pointer (some ⟨X, 0, none⟩)] val3 (fun s w => R s w ∧ Blk w X #[fval K caps]) (fun t => dom t.2.1) (nextS f) := by
  refine ⟨fun s w w' hr hb => ⟨h.on s w w' hr.1 hb, hr.2.on hb⟩, fun _ _ => rfl, fun s x w hr hx => ?_⟩
  show Calls Try.prog 59 #[.agg #[.int .i64 x.1, .int .i64 x.2.1, .int .i64 x.2.2], .pointer (some ⟨X, 0, none⟩)] w fun e w' => e = .returned (.bool (f s x.2.1).1) ∧ (R (f s x.2.1).2 w' ∧ Blk w' X #[fval K caps]) ∧ Only P w w'
  have H := Lib.hid h
  have hen := h.enter
  have c0 : w.cell? ⟨X, 0, none⟩ = some (fval K caps) := (hr.2.cell 0).1
  have hXl := hr.2.lt
  have HR := Lib.hid hr
  have HD := Lib.hid hx
  have HP := Lib.hid hX
  have hb : Below w.heap.size w (w.alloc (.cells #[.int .i64 x.1, .int .i64 x.2.1, .int .i64 x.2.2] 45)) := (Below.refl _ _).alloc (Nat.le_refl _) _
  have HR2 := Lib.hid (h.on _ _ _ hr.1 hb)
  have HB2 := Lib.hid (hr.2.on hb)
  have HO : Hid (Only P w (w.alloc (.cells #[.int .i64 x.1, .int .i64 x.2.1, .int .i64 x.2.2] 45))) := Lib.hid (only_of hb)
  clear h hr hx hX hb
  go_enter Try.func59, Try.ntmps59
  go_wp2_with fail
  refine (H.out.run s x.2.1 _ HR2.out HD.out).mono ?_; rintro e w1 ⟨rfl, r1, o1⟩
  have HX := Lib.hid (And.intro (And.intro r1 (HB2.out.only HP.out o1)) (only_tr HO.out o1))
  clear r1 o1
  go_wp2_with fail
  go_ret
  exact ⟨rfl, HX.out⟩

set_option maxHeartbeats 800000 in
theorem lift_pair {σ : Type} {P : Nat → Prop} {K : Nat} {caps : Array Value} {R : σ → World → Prop} {dom : Int → Prop} {f : σ → Int → Bool × σ} (h : Acts P K caps (Value.int .i64) R dom f) (X : Nat) (hX : ∀ k, P k → k < X) :
    Acts P 60 #[.pointer (some ⟨X, 0, none⟩)] val3 (fun s w => R s w ∧ Blk w X #[fval K caps]) (fun t => dom t.2.1 ∧ dom t.2.2) (pairS f) := by
  refine ⟨fun s w w' hr hb => ⟨h.on s w w' hr.1 hb, hr.2.on hb⟩, fun _ _ => rfl, fun s x w hr hx => ?_⟩
  show Calls Try.prog 60 #[.agg #[.int .i64 x.1, .int .i64 x.2.1, .int .i64 x.2.2], .pointer (some ⟨X, 0, none⟩)] w _
  have HP2 : Hid (pairS f s x = if (f s x.2.1).1 = true then ((f (f s x.2.1).2 x.2.2).1, (f (f s x.2.1).2 x.2.2).2) else (false, (f s x.2.1).2)) := Lib.hid (by
    unfold pairS
    rw [allS_cons, allS_cons]
    cases (f s x.2.1).1 with
    | false => simp
    | true => cases h : (f (f s x.2.1).2 x.2.2).1 with
      | true => simp [allS]
      | false => simp)
  have H := Lib.hid h.of
  have hen := h.enter
  have hXl := hr.2.lt
  have HD := Lib.hid hx
  have HPX : Hid (¬ P X) := Lib.hid (fun e => absurd (hX _ e) (Nat.lt_irrefl _))
  have HPY : Hid (¬ P w.heap.size) := Lib.hid (fun e => by have := hX _ e; omega)
  have hb : Below w.heap.size w (w.alloc (.cells #[.int .i64 x.1, .int .i64 x.2.1, .int .i64 x.2.2] 47)) := (Below.refl _ _).alloc (Nat.le_refl _) _
  have HR := Lib.hid (h.on _ _ _ hr.1 hb)
  have HB := Lib.hid (hr.2.on hb)
  have HO : Hid (Only P w (w.alloc (.cells #[.int .i64 x.1, .int .i64 x.2.1, .int .i64 x.2.2] 47))) := Lib.hid (only_of hb)
  have HG := Lib.hid (blk_new w #[.int .i64 x.1, .int .i64 x.2.1, .int .i64 x.2.2] 47)
  clear h hr hx hX hb
  go_enter Try.func60, Try.ntmps60
  go_upto_region 1 with fail
  generalize hv : w.alloc (.cells #[.int .i64 x.1, .int .i64 x.2.1, .int .i64 x.2.2] 47) = v at *
  clear hv
  obtain ⟨Y, hY⟩ : ∃ Y, Y = w.heap.size := ⟨_, rfl⟩
  rw [← hY] at HPY HG ⊢
  clear hY
  have c0 : v.cell? ⟨X, 0, none⟩ = some (fval K caps) := (HB.out.cell 0).1
  have g1 : v.cell? ⟨Y, 1, none⟩ = some (.int .i64 x.2.1) := (HG.out.cell 1).1
  have g2 : v.cell? ⟨Y, 2, none⟩ = some (.int .i64 x.2.2) := (HG.out.cell 2).1
  have hYl := HG.out.lt
  have hXv := HB.out.lt
  cases hg : f s x.2.1 with
  | mk b1 s1 =>
    have HG1 := Lib.hid hg
    clear hg
    cases b1 with
    | false =>
      have HE : Hid (pairS f s x = (false, s1)) := Lib.hid (by rw [HP2.out, HG1.out]; simp)
      go_wp2_with fail
      refine (H.out _ _ _ _ HG1.out _ HR.out HD.out.1).mono ?_; rintro e w1 ⟨rfl, r1, o1⟩
      have HX := Lib.hid (And.intro (And.intro r1 (HB.out.only HPX.out o1)) (only_tr HO.out o1))
      clear r1 o1
      go_wp2_with fail
      go_ret
      rw [HE.out]; exact ⟨rfl, HX.out⟩
    | true =>
      have HE : Hid (pairS f s x = ((f s1 x.2.2).1, (f s1 x.2.2).2)) := Lib.hid (by rw [HP2.out, HG1.out]; simp)
      cases hg : f s1 x.2.2 with
      | mk b2 s2 =>
        have HG2 := Lib.hid hg
        clear hg
        go_wp2_with fail
        refine (H.out _ _ _ _ HG1.out _ HR.out HD.out.1).mono ?_; rintro e w1 ⟨rfl, r1, o1⟩
        have HB1 := Lib.hid (HB.out.only HPX.out o1)
        have HR1 := Lib.hid r1
        have HO1 := Lib.hid (only_tr HO.out o1)
        have k0 : w1.cell? ⟨X, 0, none⟩ = some (fval K caps) := (HB1.out.cell 0).1
        have k2 : w1.cell? ⟨Y, 2, none⟩ = some (.int .i64 x.2.2) := ((HG.out.only HPY.out o1).cell 2).1
        have k3 := HB1.out.lt
        have k4 := (HG.out.only HPY.out o1).lt
        clear r1 o1 c0 g1 g2
        go_wp2_with fail
        refine (H.out _ _ _ _ HG2.out _ HR1.out HD.out.2).mono ?_; rintro e w2 ⟨rfl, r1, o1⟩
        have HX := Lib.hid (And.intro (And.intro r1 (HB1.out.only HPX.out o1)) (only_tr HO1.out o1))
        clear r1 o1
        go_wp2_with fail
        go_ret
        rw [HE.out, HG2.out]; exact ⟨rfl, HX.out⟩

theorem owned_in {D : CD} {dom : Int → Prop} (h : ∀ x ∈ ownedL D, dom x) : ∀ x ∈ D.ins, dom x := fun x hx => h x (by simp [ownedL]; exact .inl hx)
theorem owned_la {D : CD} {dom : Int → Prop} (h : ∀ x ∈ ownedL D, dom x) : ∀ t ∈ D.lats, dom t.1 := fun t ht => h _ (by
  unfold ownedL; exact List.mem_append_left _ (List.mem_append_right _ (List.mem_map.2 ⟨t, ht, rfl⟩)))
theorem owned_ga {D : CD} {dom : Int → Prop} (h : ∀ x ∈ ownedL D, dom x) : ∀ t ∈ D.gates, dom t.1 := fun t ht => h _ (by
  unfold ownedL; exact List.mem_append_right _ (List.mem_map.2 ⟨t, ht, rfl⟩))
theorem use_la {D : CD} {dom : Int → Prop} (h : ∀ x ∈ useL D, dom x) : ∀ t ∈ D.lats, dom t.2.1 := fun t ht => h _ (by
  unfold useL; exact List.mem_append_left _ (List.mem_map.2 ⟨t, ht, rfl⟩))
theorem use_ga {D : CD} {dom : Int → Prop} (h : ∀ x ∈ useL D, dom x) : ∀ t ∈ D.gates, dom t.2.1 ∧ dom t.2.2 := fun t ht =>
  ⟨h _ (by unfold useL; exact List.mem_append_right _ (List.mem_append_left _ (List.mem_flatMap.2 ⟨t, ht, by simp⟩))), h _ (by unfold useL; exact List.mem_append_right _ (List.mem_append_left _ (List.mem_flatMap.2 ⟨t, ht, by simp⟩)))⟩
theorem use_ou {D : CD} {dom : Int → Prop} (h : ∀ x ∈ useL D, dom x) : ∀ x ∈ D.outs, dom x := fun x hx => h x (by simp [useL]; exact .inr (.inr (.inl hx)))
theorem use_ba {D : CD} {dom : Int → Prop} (h : ∀ x ∈ useL D, dom x) : ∀ x ∈ D.bads, dom x := fun x hx => h x (by simp [useL]; exact .inr (.inr (.inr (.inl hx))))
theorem use_co {D : CD} {dom : Int → Prop} (h : ∀ x ∈ useL D, dom x) : ∀ x ∈ D.cons, dom x := fun x hx => h x (by simp [useL]; exact .inr (.inr (.inr (.inr hx))))

set_option maxHeartbeats 3200000 in
theorem everyLit_any {σ : Type} {P : Nat → Prop} {K : Nat} {caps : Array Value} {R : σ → World → Prop} {dom : Int → Prop} {f : σ → Int → Bool × σ} (h : Acts P K caps (Value.int .i64) R dom f)
    (D : CD) (F : CF) (w : World) (s : σ) (hc : InC P w D F) (hd : ∀ x ∈ ownedL D, dom x) (hr : R s w) (hP : ∀ k, P k → k < w.heap.size) {b : Bool} {sz : σ} (he : allS f s (ownedL D) = (b, sz)) :
    Calls Try.prog 41 #[cval D F, fval K caps] w fun e w' => e = .returned (.bool b) ∧ R sz w' ∧ Only P w w' := by
  have hb1 : Below w.heap.size w (w.alloc (.cells (ccells D F) 27)) := (Below.refl _ _).alloc (Nat.le_refl _) _
  have hb2 : Below (w.alloc (.cells (ccells D F) 27)).heap.size (w.alloc (.cells (ccells D F) 27)) ((w.alloc (.cells (ccells D F) 27)).alloc (.cells #[fval K caps] 68)) := (Below.refl _ _).alloc (Nat.le_refl _) _
  have hb := hb1.trans (hb2.mono hb1.size)
  have s1 : (w.alloc (.cells (ccells D F) 27)).heap.size = w.heap.size + 1 := by simp
  have y0 := blk_new (w.alloc (.cells (ccells D F) 27)) #[fval K caps] 68
  rw [s1] at y0
  have HX0 := Lib.hid ((blk_new w (ccells D F) 27).on hb2)
  have HY0 := Lib.hid y0
  have HI0 := Lib.hid (hc.on hb)
  have HR0 := Lib.hid (h.on _ _ _ hr hb)
  have HO0 : Hid (Only P w ((w.alloc (.cells (ccells D F) 27)).alloc (.cells #[fval K caps] 68))) := Lib.hid (only_of hb)
  have HPX : Hid (∀ k, P k → k < w.heap.size) := Lib.hid hP
  have HD := Lib.hid hd
  have H := Lib.hid h
  have HE := Lib.hid he
  have hmf : ∀ (fn : Fn) (first cap : Array Value) (w : World), (Instr.makeFunc fn first cap).run Try.prog w = .ok (.func fn first cap) w := fun _ _ _ _ => rfl
  clear h hc hd hr hP he hb1 hb2 hb s1 y0
  go_enter Try.func41, Try.ntmps41
  go_upto_region 1 with fail
  generalize hv : (w.alloc (.cells (ccells D F) 27)).alloc (.cells #[fval K caps] 68) = v0 at *
  clear hv
  obtain ⟨X, hX⟩ : ∃ X, X = w.heap.size := ⟨_, rfl⟩
  rw [← hX] at HPX HX0 HY0 ⊢
  clear hX
  have HNX : Hid (¬ P X) := Lib.hid (fun e => absurd (HPX.out _ e) (Nat.lt_irrefl _))
  have HNY : Hid (¬ P (X + 1)) := Lib.hid (fun e => by have := HPX.out _ e; omega)
  have l0 := HX0.out.lt
  have q0 := HY0.out.lt
  have y0 : v0.cell? ⟨X + 1, 0, none⟩ = some (fval K caps) := (HY0.out.cell 0).1
  have c1 : v0.cell? ⟨X, 1, none⟩ = some (.slice F.ai D.ins.length F.ci) := (HX0.out.cell 1).1
  have c2 : v0.cell? ⟨X, 2, none⟩ = some (.slice F.al D.lats.length F.cl) := (HX0.out.cell 2).1
  have c6 : v0.cell? ⟨X, 6, none⟩ = some (.slice F.ag D.gates.length F.cg) := (HX0.out.cell 6).1
  cases ha0 : allS (f) s D.ins with
  | mk b0 s1 =>
    have HA0 := Lib.hid ha0
    clear ha0
    cases b0 with
    | false =>
      obtain ⟨rfl, rfl⟩ : false = b ∧ s1 = sz := by have := HE.out; rw [own_all] at this; simp only [HA0.out, Bool.false_eq_true, if_false] at this; exact Prod.mk.inj this -- at this; simpa using this
      go_wp2_with fail
      go_at_call 55; refine (every_int H.out _ D.ins _ s HA0.out HI0.out.i (owned_in HD.out) HR0.out (fun k e => by have := HPX.out k e; omega)).mono ?_; rintro e v1 ⟨rfl, r1, o1⟩
      have HZ := Lib.hid (And.intro r1 (only_tr HO0.out o1))
      clear r1 o1
      go_wp2_with fail
      go_ret
      exact ⟨rfl, HZ.out⟩
    | true =>
      go_wp2_with fail
      go_at_call 55; refine (every_int H.out _ D.ins _ s HA0.out HI0.out.i (owned_in HD.out) HR0.out (fun k e => by have := HPX.out k e; omega)).mono ?_; rintro e v1 ⟨rfl, r1, o1⟩
      have HR1 := Lib.hid r1
      have HO1 := Lib.hid (only_tr HO0.out o1)
      have HI1 := Lib.hid (HI0.out.only o1)
      have HX1 := Lib.hid (HX0.out.only HNX.out o1)
      have HY1 := Lib.hid (HY0.out.only HNY.out o1)
      clear r1 o1 l0 q0 y0 c1 c2 c6
      have l1 := HX1.out.lt
      have q1 := HY1.out.lt
      have y1 : v1.cell? ⟨X + 1, 0, none⟩ = some (fval K caps) := (HY1.out.cell 0).1
      have c2 : v1.cell? ⟨X, 2, none⟩ = some (.slice F.al D.lats.length F.cl) := (HX1.out.cell 2).1
      have c6 : v1.cell? ⟨X, 6, none⟩ = some (.slice F.ag D.gates.length F.cg) := (HX1.out.cell 6).1
      cases ha1 : allS (litS f) s1 D.lats with
      | mk b1 s2 =>
        have HA1 := Lib.hid ha1
        clear ha1
        cases b1 with
        | false =>
          obtain ⟨rfl, rfl⟩ : false = b ∧ s2 = sz := by have := HE.out; rw [own_all] at this; simp only [HA0.out, HA1.out, if_true, Bool.false_eq_true, if_false] at this; exact Prod.mk.inj this -- at this; simpa using this
          go_wp2_with fail
          go_at_call 54; refine (every_latch (lift_lat H.out (X + 1) HNY.out) _ D.lats _ s1 HA1.out HI1.out.l (owned_la HD.out) ⟨HR1.out, HY1.out⟩ (fun k e => by have := HPX.out k e; omega)).mono ?_; rintro e v2 ⟨rfl, r1, o1⟩
          replace r1 := r1.1
          have HZ := Lib.hid (And.intro r1 (only_tr HO1.out o1))
          clear r1 o1
          go_wp2_with fail
          go_ret
          exact ⟨rfl, HZ.out⟩
        | true =>
          go_wp2_with fail
          go_at_call 54; refine (every_latch (lift_lat H.out (X + 1) HNY.out) _ D.lats _ s1 HA1.out HI1.out.l (owned_la HD.out) ⟨HR1.out, HY1.out⟩ (fun k e => by have := HPX.out k e; omega)).mono ?_; rintro e v2 ⟨rfl, r1, o1⟩
          replace r1 := r1.1
          have HR2 := Lib.hid r1
          have HO2 := Lib.hid (only_tr HO1.out o1)
          have HI2 := Lib.hid (HI1.out.only o1)
          have HX2 := Lib.hid (HX1.out.only HNX.out o1)
          have HY2 := Lib.hid (HY1.out.only HNY.out o1)
          clear r1 o1 l1 q1 y1 c2 c6
          have l2 := HX2.out.lt
          have q2 := HY2.out.lt
          have y2 : v2.cell? ⟨X + 1, 0, none⟩ = some (fval K caps) := (HY2.out.cell 0).1
          have c6 : v2.cell? ⟨X, 6, none⟩ = some (.slice F.ag D.gates.length F.cg) := (HX2.out.cell 6).1
          cases ha2 : allS (litS f) s2 D.gates with
          | mk b2 s3 =>
            have HA2 := Lib.hid ha2
            clear ha2
            obtain ⟨rfl, rfl⟩ : b2 = b ∧ s3 = sz := by have := HE.out; rw [own_all] at this; simp only [HA0.out, HA1.out, HA2.out, if_true] at this; exact Prod.mk.inj this
            go_wp2_with fail
            go_at_call 57; refine (every_gate (lift_gat H.out (X + 1) HNY.out) _ D.gates _ s2 HA2.out HI2.out.g (owned_ga HD.out) ⟨HR2.out, HY2.out⟩ (fun k e => by have := HPX.out k e; omega)).mono ?_; rintro e v3 ⟨rfl, r1, o1⟩
            replace r1 := r1.1
            have HZ := Lib.hid (And.intro r1 (only_tr HO2.out o1))
            clear r1 o1
            go_wp2_with fail
            go_ret
            exact ⟨rfl, HZ.out⟩

set_option maxHeartbeats 3200000 in
theorem everyUse_any {σ : Type} {P : Nat → Prop} {K : Nat} {caps : Array Value} {R : σ → World → Prop} {dom : Int → Prop} {f : σ → Int → Bool × σ} (h : Acts P K caps (Value.int .i64) R dom f)
    (D : CD) (F : CF) (w : World) (s : σ) (hc : InC P w D F) (hd : ∀ x ∈ useL D, dom x) (hr : R s w) (hP : ∀ k, P k → k < w.heap.size) {b : Bool} {sz : σ} (he : allS f s (useL D) = (b, sz)) :
    Calls Try.prog 45 #[cval D F, fval K caps] w fun e w' => e = .returned (.bool b) ∧ R sz w' ∧ Only P w w' := by
  have hb1 : Below w.heap.size w (w.alloc (.cells (ccells D F) 27)) := (Below.refl _ _).alloc (Nat.le_refl _) _
  have hb2 : Below (w.alloc (.cells (ccells D F) 27)).heap.size (w.alloc (.cells (ccells D F) 27)) ((w.alloc (.cells (ccells D F) 27)).alloc (.cells #[fval K caps] 68)) := (Below.refl _ _).alloc (Nat.le_refl _) _
  have hb := hb1.trans (hb2.mono hb1.size)
  have s1 : (w.alloc (.cells (ccells D F) 27)).heap.size = w.heap.size + 1 := by simp
  have y0 := blk_new (w.alloc (.cells (ccells D F) 27)) #[fval K caps] 68
  rw [s1] at y0
  have HX0 := Lib.hid ((blk_new w (ccells D F) 27).on hb2)
  have HY0 := Lib.hid y0
  have HI0 := Lib.hid (hc.on hb)
  have HR0 := Lib.hid (h.on _ _ _ hr hb)
  have HO0 : Hid (Only P w ((w.alloc (.cells (ccells D F) 27)).alloc (.cells #[fval K caps] 68))) := Lib.hid (only_of hb)
  have HPX : Hid (∀ k, P k → k < w.heap.size) := Lib.hid hP
  have HD := Lib.hid hd
  have H := Lib.hid h
  have HE := Lib.hid he
  have hmf : ∀ (fn : Fn) (first cap : Array Value) (w : World), (Instr.makeFunc fn first cap).run Try.prog w = .ok (.func fn first cap) w := fun _ _ _ _ => rfl
  clear h hc hd hr hP he hb1 hb2 hb s1 y0
  go_enter Try.func45, Try.ntmps45
  go_upto_region 1 with fail
  generalize hv : (w.alloc (.cells (ccells D F) 27)).alloc (.cells #[fval K caps] 68) = v0 at *
  clear hv
  obtain ⟨X, hX⟩ : ∃ X, X = w.heap.size := ⟨_, rfl⟩
  rw [← hX] at HPX HX0 HY0 ⊢
  clear hX
  have HNX : Hid (¬ P X) := Lib.hid (fun e => absurd (HPX.out _ e) (Nat.lt_irrefl _))
  have HNY : Hid (¬ P (X + 1)) := Lib.hid (fun e => by have := HPX.out _ e; omega)
  have l0 := HX0.out.lt
  have q0 := HY0.out.lt
  have y0 : v0.cell? ⟨X + 1, 0, none⟩ = some (fval K caps) := (HY0.out.cell 0).1
  have c2 : v0.cell? ⟨X, 2, none⟩ = some (.slice F.al D.lats.length F.cl) := (HX0.out.cell 2).1
  have c6 : v0.cell? ⟨X, 6, none⟩ = some (.slice F.ag D.gates.length F.cg) := (HX0.out.cell 6).1
  have c3 : v0.cell? ⟨X, 3, none⟩ = some (.slice F.ao D.outs.length F.co) := (HX0.out.cell 3).1
  have c4 : v0.cell? ⟨X, 4, none⟩ = some (.slice F.ab D.bads.length F.cb) := (HX0.out.cell 4).1
  have c5 : v0.cell? ⟨X, 5, none⟩ = some (.slice F.ac D.cons.length F.cc) := (HX0.out.cell 5).1
  cases ha0 : allS (nextS f) s D.lats with
  | mk b0 s1 =>
    have HA0 := Lib.hid ha0
    clear ha0
    cases b0 with
    | false =>
      obtain ⟨rfl, rfl⟩ : false = b ∧ s1 = sz := by have := HE.out; rw [use_all] at this; simp only [HA0.out, Bool.false_eq_true, if_false] at this; exact Prod.mk.inj this -- at this; simpa using this
      go_wp2_with fail
      go_at_call 54; refine (every_latch (lift_nxt H.out (X + 1) HNY.out) _ D.lats _ s HA0.out HI0.out.l (use_la HD.out) ⟨HR0.out, HY0.out⟩ (fun k e => by have := HPX.out k e; omega)).mono ?_; rintro e v1 ⟨rfl, r1, o1⟩
      replace r1 := r1.1
      have HZ := Lib.hid (And.intro r1 (only_tr HO0.out o1))
      clear r1 o1
      go_wp2_with fail
      go_ret
      exact ⟨rfl, HZ.out⟩
    | true =>
      go_wp2_with fail
      go_at_call 54; refine (every_latch (lift_nxt H.out (X + 1) HNY.out) _ D.lats _ s HA0.out HI0.out.l (use_la HD.out) ⟨HR0.out, HY0.out⟩ (fun k e => by have := HPX.out k e; omega)).mono ?_; rintro e v1 ⟨rfl, r1, o1⟩
      replace r1 := r1.1
      have HR1 := Lib.hid r1
      have HO1 := Lib.hid (only_tr HO0.out o1)
      have HI1 := Lib.hid (HI0.out.only o1)
      have HX1 := Lib.hid (HX0.out.only HNX.out o1)
      have HY1 := Lib.hid (HY0.out.only HNY.out o1)
      clear r1 o1 l0 q0 y0 c2 c6 c3 c4 c5
      have l1 := HX1.out.lt
      have q1 := HY1.out.lt
      have y1 : v1.cell? ⟨X + 1, 0, none⟩ = some (fval K caps) := (HY1.out.cell 0).1
      have c6 : v1.cell? ⟨X, 6, none⟩ = some (.slice F.ag D.gates.length F.cg) := (HX1.out.cell 6).1
      have c3 : v1.cell? ⟨X, 3, none⟩ = some (.slice F.ao D.outs.length F.co) := (HX1.out.cell 3).1
      have c4 : v1.cell? ⟨X, 4, none⟩ = some (.slice F.ab D.bads.length F.cb) := (HX1.out.cell 4).1
      have c5 : v1.cell? ⟨X, 5, none⟩ = some (.slice F.ac D.cons.length F.cc) := (HX1.out.cell 5).1
      cases ha1 : allS (pairS f) s1 D.gates with
      | mk b1 s2 =>
        have HA1 := Lib.hid ha1
        clear ha1
        cases b1 with
        | false =>
          obtain ⟨rfl, rfl⟩ : false = b ∧ s2 = sz := by have := HE.out; rw [use_all] at this; simp only [HA0.out, HA1.out, if_true, Bool.false_eq_true, if_false] at this; exact Prod.mk.inj this -- at this; simpa using this
          go_wp2_with fail
          go_at_call 57; refine (every_gate (lift_pair H.out (X + 1) (fun k e => by have := HPX.out k e; omega)) _ D.gates _ s1 HA1.out HI1.out.g (use_ga HD.out) ⟨HR1.out, HY1.out⟩ (fun k e => by have := HPX.out k e; omega)).mono ?_; rintro e v2 ⟨rfl, r1, o1⟩
          replace r1 := r1.1
          have HZ := Lib.hid (And.intro r1 (only_tr HO1.out o1))
          clear r1 o1
          go_wp2_with fail
          go_ret
          exact ⟨rfl, HZ.out⟩
        | true =>
          go_wp2_with fail
          go_at_call 57; refine (every_gate (lift_pair H.out (X + 1) (fun k e => by have := HPX.out k e; omega)) _ D.gates _ s1 HA1.out HI1.out.g (use_ga HD.out) ⟨HR1.out, HY1.out⟩ (fun k e => by have := HPX.out k e; omega)).mono ?_; rintro e v2 ⟨rfl, r1, o1⟩
          replace r1 := r1.1
          have HR2 := Lib.hid r1
          have HO2 := Lib.hid (only_tr HO1.out o1)
          have HI2 := Lib.hid (HI1.out.only o1)
          have HX2 := Lib.hid (HX1.out.only HNX.out o1)
          have HY2 := Lib.hid (HY1.out.only HNY.out o1)
          clear r1 o1 l1 q1 y1 c6 c3 c4 c5
          have l2 := HX2.out.lt
          have q2 := HY2.out.lt
          have y2 : v2.cell? ⟨X + 1, 0, none⟩ = some (fval K caps) := (HY2.out.cell 0).1
          have c3 : v2.cell? ⟨X, 3, none⟩ = some (.slice F.ao D.outs.length F.co) := (HX2.out.cell 3).1
          have c4 : v2.cell? ⟨X, 4, none⟩ = some (.slice F.ab D.bads.length F.cb) := (HX2.out.cell 4).1
          have c5 : v2.cell? ⟨X, 5, none⟩ = some (.slice F.ac D.cons.length F.cc) := (HX2.out.cell 5).1
          cases ha2 : allS (f) s2 D.outs with
          | mk b2 s3 =>
            have HA2 := Lib.hid ha2
            clear ha2
            cases b2 with
            | false =>
              obtain ⟨rfl, rfl⟩ : false = b ∧ s3 = sz := by have := HE.out; rw [use_all] at this; simp only [HA0.out, HA1.out, HA2.out, if_true, Bool.false_eq_true, if_false] at this; exact Prod.mk.inj this -- at this; simpa using this
              go_wp2_with fail
              go_at_call 55; refine (every_int H.out _ D.outs _ s2 HA2.out HI2.out.o (use_ou HD.out) HR2.out (fun k e => by have := HPX.out k e; omega)).mono ?_; rintro e v3 ⟨rfl, r1, o1⟩
              have HZ := Lib.hid (And.intro r1 (only_tr HO2.out o1))
              clear r1 o1
              go_wp2_with fail
              go_ret
              exact ⟨rfl, HZ.out⟩
            | true =>
              go_wp2_with fail
              go_at_call 55; refine (every_int H.out _ D.outs _ s2 HA2.out HI2.out.o (use_ou HD.out) HR2.out (fun k e => by have := HPX.out k e; omega)).mono ?_; rintro e v3 ⟨rfl, r1, o1⟩
              have HR3 := Lib.hid r1
              have HO3 := Lib.hid (only_tr HO2.out o1)
              have HI3 := Lib.hid (HI2.out.only o1)
              have HX3 := Lib.hid (HX2.out.only HNX.out o1)
              have HY3 := Lib.hid (HY2.out.only HNY.out o1)
              clear r1 o1 l2 q2 y2 c3 c4 c5
              have l3 := HX3.out.lt
              have q3 := HY3.out.lt
              have y3 : v3.cell? ⟨X + 1, 0, none⟩ = some (fval K caps) := (HY3.out.cell 0).1
              have c4 : v3.cell? ⟨X, 4, none⟩ = some (.slice F.ab D.bads.length F.cb) := (HX3.out.cell 4).1
              have c5 : v3.cell? ⟨X, 5, none⟩ = some (.slice F.ac D.cons.length F.cc) := (HX3.out.cell 5).1
              cases ha3 : allS (f) s3 D.bads with
              | mk b3 s4 =>
                have HA3 := Lib.hid ha3
                clear ha3
                cases b3 with
                | false =>
                  obtain ⟨rfl, rfl⟩ : false = b ∧ s4 = sz := by have := HE.out; rw [use_all] at this; simp only [HA0.out, HA1.out, HA2.out, HA3.out, if_true, Bool.false_eq_true, if_false] at this; exact Prod.mk.inj this -- at this; simpa using this
                  go_wp2_with fail
                  go_at_call 55; refine (every_int H.out _ D.bads _ s3 HA3.out HI3.out.b (use_ba HD.out) HR3.out (fun k e => by have := HPX.out k e; omega)).mono ?_; rintro e v4 ⟨rfl, r1, o1⟩
                  have HZ := Lib.hid (And.intro r1 (only_tr HO3.out o1))
                  clear r1 o1
                  go_wp2_with fail
                  go_ret
                  exact ⟨rfl, HZ.out⟩
                | true =>
                  go_wp2_with fail
                  go_at_call 55; refine (every_int H.out _ D.bads _ s3 HA3.out HI3.out.b (use_ba HD.out) HR3.out (fun k e => by have := HPX.out k e; omega)).mono ?_; rintro e v4 ⟨rfl, r1, o1⟩
                  have HR4 := Lib.hid r1
                  have HO4 := Lib.hid (only_tr HO3.out o1)
                  have HI4 := Lib.hid (HI3.out.only o1)
                  have HX4 := Lib.hid (HX3.out.only HNX.out o1)
                  have HY4 := Lib.hid (HY3.out.only HNY.out o1)
                  clear r1 o1 l3 q3 y3 c4 c5
                  have l4 := HX4.out.lt
                  have q4 := HY4.out.lt
                  have y4 : v4.cell? ⟨X + 1, 0, none⟩ = some (fval K caps) := (HY4.out.cell 0).1
                  have c5 : v4.cell? ⟨X, 5, none⟩ = some (.slice F.ac D.cons.length F.cc) := (HX4.out.cell 5).1
                  cases ha4 : allS (f) s4 D.cons with
                  | mk b4 s5 =>
                    have HA4 := Lib.hid ha4
                    clear ha4
                    obtain ⟨rfl, rfl⟩ : b4 = b ∧ s5 = sz := by have := HE.out; rw [use_all] at this; simp only [HA0.out, HA1.out, HA2.out, HA3.out, HA4.out, if_true] at this; exact Prod.mk.inj this
                    go_wp2_with fail
                    go_at_call 55; refine (every_int H.out _ D.cons _ s4 HA4.out HI4.out.c (use_co HD.out) HR4.out (fun k e => by have := HPX.out k e; omega)).mono ?_; rintro e v5 ⟨rfl, r1, o1⟩
                    have HZ := Lib.hid (And.intro r1 (only_tr HO4.out o1))
                    clear r1 o1
                    go_wp2_with fail
                    go_ret
                    exact ⟨rfl, HZ.out⟩
end Go.Proofs.Ytbpjflghkkkenaa.row

/- A region that draws, each of whose operations has one value: whatever order came up. -/
namespace Go.Proofs.Ytbpjflghkkkenaa.rinv
open Go
/-- the values so far, of an operation each -/
structure Jd (S : World → Prop) (V : List Value) (f : Nat → Bool) (us : List Value) (w : World) : Prop where
  s : S w
  len : us.length = V.length
  h : ∀ i, f i = true → us[i]? = V[i]?
theorem Jd.start {S : World → Prop} {V us : List Value} {w : World} (hs : S w) (hl : us.length = V.length) : Jd S V (fun _ => false) us w := ⟨hs, hl, nofun⟩
theorem Jd.put {S : World → Prop} {V : List Value} {f : Nat → Bool} {us : List Value} {w w' : World} (J : Jd S V f us w) (i : Nat) {v : Value} (hv : V[i]? = some v) (hs : S w') : Jd S V (upd f i) (us.set i v) w' := by
  refine ⟨hs, by rw [List.length_set]; exact J.len, fun j hj => ?_⟩
  have hi := (List.getElem?_eq_some_iff.1 hv).1
  rw [List.getElem?_set]
  by_cases e : i = j
  · subst e
    rw [if_pos rfl, if_pos (by rw [J.len]; exact hi), hv]
  · rw [if_neg e]
    exact J.h j (by simpa [upd, show (j == i) = false by simp; omega] using hj)
section
variable {P : Program} {ops : Array Oper} {Q : Exit → Act → World → Prop}
/-- an operation whose guard lets it run -/
theorem wpOp_yes {i : Nat} {o : Oper} {a : Act} {w : World} {K : Act → World → Prop} (ho : ops[i]? = some o) (hg : Region.wanted o (yielded ops a.tmps) = true) (h : ∀ K' : Act → World → Prop, (∀ a w, K a w → K' a w) → o.wp P a w K' Q) : wpOp P ops Q i K a w := by
  unfold wpOp
  rw [ho]
  simp only [hg, if_true]
  exact .inl (h K fun _ _ h => h)
/-- an operation whose guard does not -/
theorem wpOp_no {i : Nat} {o : Oper} {a : Act} {w : World} {K : Act → World → Prop} (ho : ops[i]? = some o) (hg : Region.wanted o (yielded ops a.tmps) = false) (h : K (a.put o.dst undef) w) : wpOp P ops Q i K a w := by
  unfold wpOp
  rw [ho]
  simp only [hg]
  exact h
end
end Go.Proofs.Ytbpjflghkkkenaa.rinv
