import Derived.Test.YtbpjflghkkkenaaMg18
/- The queue's first one, and what is so behind it. -/
namespace Go.Proofs.Ytbpjflghkkkenaa.row
set_option maxRecDepth 100000
open Go.RowKit
open Go.Proofs.Ytbpjflghkkkenaa.aig (Only)
open Go.Proofs.Ytbpjflghkkkenaa.heap Go.Proofs.Ytbpjflghkkkenaa.hpf Go.Proofs.Ytbpjflghkkkenaa.fns

theorem wf_le {n : Nat} {P T : List Nat} (h : Wf n P T) : T.length ≤ n := by
  have gd : ∀ i (hi : i < T.length), T.getD i 0 = T[i] := fun i hi => by simp [List.getD, hi]
  refine nodup_le n T ?_ (fun y hy => ?_)
  · unfold List.Nodup
    rw [List.pairwise_iff_getElem]
    intro i j hi hj hij e
    have := h.inj hi hj (by rw [gd i hi, gd j hj]; exact e)
    omega
  · obtain ⟨i, hi, rfl⟩ := List.getElem_of_mem hy
    have := (h.at_ i hi).1
    rwa [gd i hi] at this
/-- behind a look at the queue: there is a first one, or there is none -/
def At (K : SP) (gs : List Tri) (k : Nat) (b : Bool) (x : Nat) (w : World) : Prop :=
  match b with
  | false => ∃ tv ov op heads next P L told C, So K gs w tv ov op heads next P [] L ∧ Inv gs K.V k [] told L op heads next P C
  | true => ∃ tv ov op heads next P T L told C l, So K gs w tv ov op heads next P T L ∧ x < gs.length ∧ Inv gs K.V k l told (L ++ [(x : Int)]) (op.set (vL gs x).toNat (-1)) heads next P C ∧ Ch next (heads.getD x (-1)) l
theorem zero_of {n : Nat} {P : List Nat} (h : Wf n P []) (i : Nat) : P.getD i 0 = 0 := by
  by_cases hi : i < n
  · by_cases e : P.getD i 0 = 0
    · exact e
    · have h3 : P.getD i 0 ≤ 0 := (h.back i hi e).1
      exact Nat.le_zero.1 h3
  · have h3 := h.len
    simp only [List.getD]
    rw [List.getElem?_eq_none (by omega)]; rfl
/-- how long the order is -/
def lenO (Z : Nat) (w : World) : Nat := match w.cell? ⟨Z, 5, none⟩ with
  | some (.slice _ n _) => n
  | _ => 0
theorem So.lenO {K : SP} {gs : List Tri} {w : World} {tv ov : Value} {op heads next : List Int} {P T : List Nat} {L : List Int} (h : So K gs w tv ov op heads next P T L) : lenO K.Z w = L.length := by
  unfold row.lenO
  rw [h.cells.2.2.2.2.2.1]
  rcases h.ord.2 with ⟨rfl, e⟩ | ⟨g', cap, cur, rfl, -⟩
  · simp; omega
  · rfl
theorem take_at (K : SP) (gs : List Tri) (w : World) (tv ov : Value) (op heads next : List Int) (P T : List Nat) (L : List Int) (k : Nat) (told : List Bool) (C : Nat → List Nat)
    (h : So K gs w tv ov op heads next P T L) (hI : Inv gs K.V k [] told L op heads next P C) (hg : GG gs K.V) (hn : gs.length ≤ 1000) :
    Calls Try.prog 63 #[.slice (some ⟨K.bq, 0, none⟩) 1 K.cap] w fun e w' => ∃ b x, e = .returned (.tuple #[.int .i64 ((x : Nat) : Int), .bool b]) ∧ At K gs k b x w' ∧ Below K.W w w' ∧ row.lenO K.Z w' = L.length := by
  have hlow := h.lt.2.2.2.2
  cases hT : T with
  | nil =>
    subst hT
    refine (take_none K.A K.B K.bq K.cap K.g K.s K.p gs.length tv P w h.q h.low.2.2.2.2).mono ?_
    rintro e w' ⟨rfl, rfl⟩
    exact ⟨false, 0, rfl, ⟨tv, ov, op, heads, next, P, L, told, C, h, hI⟩, Below.refl _ _, h.lenO⟩
  | cons t0 T0 =>
    have wf := h.q.ok.wf
    have hx := (wf.at_ 0 (by rw [hT]; simp))
    obtain ⟨x, hxe⟩ : ∃ x, x = T.getD 0 0 := ⟨_, rfl⟩
    rw [← hxe] at hx
    refine (take_some K.A K.B K.bq K.cap K.g K.s K.p gs.length x T0.length tv P T w h.q h.low.2.2.2.2 (by rw [hT]; simp) hxe.symm (wf_le wf) hn).mono ?_
    rintro e w' ⟨rfl, tv', P', T', k1, k2, k3, k4, k5⟩
    have hmin : ∀ y, P.getD y 0 ≠ 0 → x ≤ y := by
      intro y hy
      have hyn : y < gs.length := by
        by_cases e : y < gs.length
        · exact e
        · exfalso; apply hy
          have := wf.len
          simp only [List.getD]
          rw [List.getElem?_eq_none (by omega)]; rfl
      have := h.q.ok.min hyn hy
      rw [← hxe] at this
      unfold rank at this
      rw [rep_getD, rep_getD] at this
      omega
    have hI2 := hI.tell hg (by rw [hx.2]; omega) hmin (by rw [wf.len]; exact hx.1) k3
    refine ⟨true, x, rfl, ⟨tv', ov, op, heads, next, P', T', L, _, _, _, h.heap k1 k4 k5, hx.1, hI2.1, hI2.2⟩, ⟨k4.os, k4.tape, k4.output, k4.size, fun j hj => k4.block j (by omega) (fun e => by have := (h.qn j (.inr (.inr e))).2; omega)⟩, (h.heap k1 k4 k5).lenO⟩
/-- the gates' variables that are told so far -/
structure OpenTo (gs : List Tri) (V : Nat) (op : List Int) (k : Nat) : Prop where
  len : op.length = V
  at_ : ∀ v, v < V → (op.getD v (-1) = -1 ∧ ∀ i, i < k → vL gs i ≠ (v : Int)) ∨ ∃ p, p < k ∧ op.getD v (-1) = (p : Int) ∧ vL gs p = (v : Int)
theorem open_start (gs : List Tri) (V : Nat) : OpenTo gs V (List.replicate V (-1)) 0 := ⟨by simp, fun v _ => .inl ⟨rep_getD _ _ _, fun i hi => by omega⟩⟩
theorem OpenTo.step {gs : List Tri} {V : Nat} {op : List Int} {k v : Nat} (h : OpenTo gs V op k) (hv : vL gs k = (v : Int)) (hv2 : v < V) : OpenTo gs V (op.set v (k : Int)) (k + 1) := by
  refine ⟨by rw [List.length_set]; exact h.len, fun u hu => ?_⟩
  rw [getD_setG]
  by_cases e : v = u
  · subst e
    rw [if_pos ⟨rfl, by rw [h.len]; exact hv2⟩]
    exact .inr ⟨k, by omega, rfl, hv⟩
  · rw [if_neg (fun e2 => e e2.1)]
    rcases h.at_ u hu with ⟨a, b⟩ | ⟨p, a, b, c⟩
    · refine .inl ⟨a, fun i hi => ?_⟩
      by_cases e2 : i = k
      · subst e2; rw [hv]; omega
      · exact b i (by omega)
    · exact .inr ⟨p, by omega, b, c⟩
theorem OpenTo.inv {gs : List Tri} {V : Nat} {op : List Int} (h : OpenTo gs V op gs.length) : Inv gs V 0 [] (List.replicate gs.length false) [] op (List.replicate gs.length (-1)) (List.replicate gs.length 0) (List.replicate gs.length 0) (fun _ => []) :=
  Inv.start h.len h.at_
end Go.Proofs.Ytbpjflghkkkenaa.row

/- sorted, of at least one gate. (Printed by mkZn.py.) -/
namespace Go.Proofs.Ytbpjflghkkkenaa.row
set_option maxRecDepth 100000
open Go.RowKit
open Go.Proofs.Ytbpjflghkkkenaa.aig (Only)
open Go.Proofs.Ytbpjflghkkkenaa.heap Go.Proofs.Ytbpjflghkkkenaa.hpf Go.Proofs.Ytbpjflghkkkenaa.fns Go.Proofs.Ytbpjflghkkkenaa.rinv
open Go.Proofs.Ytbpjflghkkkenaa.ints (below_drewN)

/-- the gates' order, as it is handed back -/
def Sorted (gs : List Tri) (w : World) (e : Ending) (w' : World) : Prop := ∃ ov, e = .returned ov ∧ w'.ownsRow w.heap.size 3 1 ov (orderL gs).length ((orderL gs).map (Value.int .i64)) ∧ Below w.heap.size w w'
set_option maxHeartbeats 6400000 in
theorem sorted_any (n last : Nat) (gs : List Tri) (ga : Option Addr) (gc : Nat) (w : World) (hn0 : 1 ≤ n) (hn : n ≤ 1000) (hl : last ≤ 50000000) (hlen : gs.length = n) (hgg : GG gs (last + 1)) (hl3 : ∀ t ∈ gs, Lit3 t) (hg : Rw enc3 3 (fun k => w.heap.size ≤ k) w (.slice ga n gc) gs) :
    Calls Try.prog 46 #[.slice ga n gc, .int .i64 (last : Int)] w (Sorted gs w) := by
  obtain ⟨st1, st2, st3, st4, st5⟩ := stays_all w.heap.size ga gc n last gs
  have HST : ∀ P ∈ ([Ev (.slice ga n gc), Lit1, Ev (.int .i64 (last : Int)), Ev (.int .i64 ((last : Int) + 1)), RowV w.heap.size (-1) (last + 1), Lit1, Ev (.slice ga n gc), Ev (.int .i64 (n : Int)), RowV w.heap.size (-1) n, Ev (.slice ga n gc), Ev (.int .i64 (n : Int)), RowV w.heap.size 0 n, Ev (.slice ga n gc), Ev (.int .i64 (n : Int)), QueV w.heap.size n, AggV w.heap.size ga gc n last, PtrV w.heap.size ga gc n last gs, PtrV w.heap.size ga gc n last gs] : List VP), Stays P := by
    intro P hP
    simp only [List.mem_cons, List.not_mem_nil, or_false] at hP
    rcases hP with rfl | rfl | rfl | rfl | rfl | rfl | rfl | rfl | rfl | rfl | rfl | rfl | rfl | rfl | rfl | rfl | rfl | rfl <;> first | exact stays_ev _ | exact st1 | exact st2 _ _ | exact st3 | exact st4 | exact st5
  have HGT := Lib.hid hg
  have HGN := Lib.hid hlen
  have HGG := Lib.hid hgg
  have HL3 := Lib.hid hl3
  clear st1 st2 st3 st4 st5 hg hlen hgg hl3
  have hw1 : IntKind.i64.wrap ((last : Int) + 1) = (last : Int) + 1 := IntWalk.i64_in _ (by omega)
  go_enter Try.func46, Try.ntmps46
  go_upto_region 1 with fail
  go_cut [5] (fun u wx => Hid (PtrV w.heap.size ga gc n last gs 0 0 wx u) ∧ Hid (Below w.heap.size w wx))
  case first =>
    refine wp_region_inv (by kernel_rfl) (by kernel_rfl) (fun f a w' => ∃ u11 u12 u13 u14 u15 u16 u17 u18 u19 u20 u21 u22 u23 u24 u25 u26 u27 u5, a = ⟨#[.slice ga n gc, .int .i64 (last : Int), undef, undef, .slice none 0 0, u5, undef, undef, undef, undef, undef, u11, u12, u13, u14, u15, u16, u17, u18, u19, u20, u21, u22, u23, u24, u25, u26, u27, undef, undef, undef, undef, undef, undef, undef, undef, undef, undef, undef, undef, undef, undef, undef, undef, undef, undef, undef, undef, undef, undef, undef, undef, undef, undef, undef, undef, undef, undef, undef, undef, undef, undef, undef, undef, undef, undef, undef, undef, undef, undef, undef, undef, undef, undef, undef, undef, undef, undef], []⟩ ∧ Jo (fun u => Below w.heap.size w u) [Ev (.slice ga n gc), Lit1, Ev (.int .i64 (last : Int)), Ev (.int .i64 ((last : Int) + 1)), RowV w.heap.size (-1) (last + 1), Lit1, Ev (.slice ga n gc), Ev (.int .i64 (n : Int)), RowV w.heap.size (-1) n, Ev (.slice ga n gc), Ev (.int .i64 (n : Int)), RowV w.heap.size 0 n, Ev (.slice ga n gc), Ev (.int .i64 (n : Int)), QueV w.heap.size n, AggV w.heap.size ga gc n last, PtrV w.heap.size ga gc n last gs, PtrV w.heap.size ga gc n last gs] f [u11, u12, u13, u14, u15, u16, u17, u18, u19, u20, u21, u22, u23, u24, u25, u26, u27, u5] w') ?_ ?_ ?_
    · exact ⟨_, _, _, _, _, _, _, _, _, _, _, _, _, _, _, _, _, _, rfl, Jo.start ((Below.refl _ _).drew) rfl⟩
    · refine all_of18 ?_ ?_ ?_ ?_ ?_ ?_ ?_ ?_ ?_ ?_ ?_ ?_ ?_ ?_ ?_ ?_ ?_ ?_
      · intro f a w1 hf he hI
        refine ex18 hI (G := fun a => wpOp Try.prog _ _ 0 _ a w1) ?_
        clear hI
        intro u11 u12 u13 u14 u15 u16 u17 u18 u19 u20 u21 u22 u23 u24 u25 u26 u27 u5 J
        show wpOp Try.prog _ _ 0 _ _ w1
        have hs := J.s
        clear he
        refine wpOp_of rfl rfl (fun K hK => ?_)
        go_simp
        exact hK _ _ ⟨_, _, _, _, _, _, _, _, _, _, _, _, _, _, _, _, _, _, rfl, J.put HST 0 hf rfl (Below.refl _ _) rfl hs⟩
      · intro f a w1 hf he hI
        refine ex18 hI (G := fun a => wpOp Try.prog _ _ 1 _ a w1) ?_
        clear hI
        intro u11 u12 u13 u14 u15 u16 u17 u18 u19 u20 u21 u22 u23 u24 u25 u26 u27 u5 J
        show wpOp Try.prog _ _ 1 _ _ w1
        have hs := J.s
        clear he
        refine wpOp_of rfl rfl (fun K hK => ?_)
        go_simp
        exact hK _ _ ⟨_, _, _, _, _, _, _, _, _, _, _, _, _, _, _, _, _, _, rfl, J.put HST 1 hf rfl ((Below.refl _ _).alloc (Nat.le_refl _) _) ⟨_, rfl, blk_new _ _ _⟩ (hs.trans (((Below.refl _ _).alloc (Nat.le_refl _) _).mono hs.size))⟩
      · intro f a w1 hf he hI
        refine ex18 hI (G := fun a => wpOp Try.prog _ _ 2 _ a w1) ?_
        clear hI
        intro u11 u12 u13 u14 u15 u16 u17 u18 u19 u20 u21 u22 u23 u24 u25 u26 u27 u5 J
        show wpOp Try.prog _ _ 2 _ _ w1
        have hs := J.s
        clear he
        refine wpOp_of rfl rfl (fun K hK => ?_)
        go_simp
        exact hK _ _ ⟨_, _, _, _, _, _, _, _, _, _, _, _, _, _, _, _, _, _, rfl, J.put HST 2 hf rfl (Below.refl _ _) rfl hs⟩
      · intro f a w1 hf he hI
        refine ex18 hI (G := fun a => wpOp Try.prog _ _ 3 _ a w1) ?_
        clear hI
        intro u11 u12 u13 u14 u15 u16 u17 u18 u19 u20 u21 u22 u23 u24 u25 u26 u27 u5 J
        show wpOp Try.prog _ _ 3 _ _ w1
        have f2 := he _ rfl ⟨2, .data⟩ (by simp) rfl
        obtain rfl : u13 = .int .i64 (last : Int) := J.ev 2 f2 rfl rfl
        have hs := J.s
        clear he
        refine wpOp_of rfl rfl (fun K hK => ?_)
        go_simp
        exact hK _ _ ⟨_, _, _, _, _, _, _, _, _, _, _, _, _, _, _, _, _, _, rfl, J.put HST 3 hf rfl (Below.refl _ _) rfl hs⟩
      · intro f a w1 hf he hI
        refine ex18 hI (G := fun a => wpOp Try.prog _ _ 4 _ a w1) ?_
        clear hI
        intro u11 u12 u13 u14 u15 u16 u17 u18 u19 u20 u21 u22 u23 u24 u25 u26 u27 u5 J
        show wpOp Try.prog _ _ 4 _ _ w1
        have f1 := he _ rfl ⟨1, .data⟩ (by simp) rfl
        have f3 := he _ rfl ⟨3, .data⟩ (by simp) rfl
        obtain rfl : u14 = .int .i64 ((last : Int) + 1) := J.ev 3 f3 rfl rfl
        have hs := J.s
        clear he
        obtain ⟨lo, hi, ⟨b, rfl, hb⟩, -⟩ := J.get 1 f1 (P := Lit1) (u := u12) rfl rfl
        have HBB := Lib.hid hb
        clear hb
        refine wpOp_of rfl rfl (fun K hK => ?_)
        go_simp
        go_wp2_with (go_at_call 25; refine (repeat_of (-1) (last + 1) b w1 rfl (by omega) HBB.out).mono ?_; rintro e w2 ⟨G, rfl, hG1, hG2, hb2⟩)
        exact ⟨_, _, _, _, _, _, _, _, _, _, _, _, _, _, _, _, _, _, rfl, J.put HST 4 hf rfl hb2 ⟨G, rfl, hs.size, hG1, (Array.getElem?_eq_some_iff.1 hG2).1, ⟨_, hG2⟩⟩ (hs.trans (hb2.mono hs.size))⟩
      · intro f a w1 hf he hI
        refine ex18 hI (G := fun a => wpOp Try.prog _ _ 5 _ a w1) ?_
        clear hI
        intro u11 u12 u13 u14 u15 u16 u17 u18 u19 u20 u21 u22 u23 u24 u25 u26 u27 u5 J
        show wpOp Try.prog _ _ 5 _ _ w1
        have hs := J.s
        clear he
        refine wpOp_of rfl rfl (fun K hK => ?_)
        go_simp
        exact hK _ _ ⟨_, _, _, _, _, _, _, _, _, _, _, _, _, _, _, _, _, _, rfl, J.put HST 5 hf rfl ((Below.refl _ _).alloc (Nat.le_refl _) _) ⟨_, rfl, blk_new _ _ _⟩ (hs.trans (((Below.refl _ _).alloc (Nat.le_refl _) _).mono hs.size))⟩
      · intro f a w1 hf he hI
        refine ex18 hI (G := fun a => wpOp Try.prog _ _ 6 _ a w1) ?_
        clear hI
        intro u11 u12 u13 u14 u15 u16 u17 u18 u19 u20 u21 u22 u23 u24 u25 u26 u27 u5 J
        show wpOp Try.prog _ _ 6 _ _ w1
        have hs := J.s
        clear he
        refine wpOp_of rfl rfl (fun K hK => ?_)
        go_simp
        exact hK _ _ ⟨_, _, _, _, _, _, _, _, _, _, _, _, _, _, _, _, _, _, rfl, J.put HST 6 hf rfl (Below.refl _ _) rfl hs⟩
      · intro f a w1 hf he hI
        refine ex18 hI (G := fun a => wpOp Try.prog _ _ 7 _ a w1) ?_
        clear hI
        intro u11 u12 u13 u14 u15 u16 u17 u18 u19 u20 u21 u22 u23 u24 u25 u26 u27 u5 J
        show wpOp Try.prog _ _ 7 _ _ w1
        have f6 := he _ rfl ⟨6, .data⟩ (by simp) rfl
        obtain rfl : u17 = .slice ga n gc := J.ev 6 f6 rfl rfl
        have hs := J.s
        clear he
        refine wpOp_of rfl rfl (fun K hK => ?_)
        go_simp
        exact hK _ _ ⟨_, _, _, _, _, _, _, _, _, _, _, _, _, _, _, _, _, _, rfl, J.put HST 7 hf rfl (Below.refl _ _) rfl hs⟩
      · intro f a w1 hf he hI
        refine ex18 hI (G := fun a => wpOp Try.prog _ _ 8 _ a w1) ?_
        clear hI
        intro u11 u12 u13 u14 u15 u16 u17 u18 u19 u20 u21 u22 u23 u24 u25 u26 u27 u5 J
        show wpOp Try.prog _ _ 8 _ _ w1
        have f5 := he _ rfl ⟨5, .data⟩ (by simp) rfl
        have f7 := he _ rfl ⟨7, .data⟩ (by simp) rfl
        obtain rfl : u18 = .int .i64 (n : Int) := J.ev 7 f7 rfl rfl
        have hs := J.s
        clear he
        obtain ⟨lo, hi, ⟨b, rfl, hb⟩, -⟩ := J.get 5 f5 (P := Lit1) (u := u16) rfl rfl
        have HBB := Lib.hid hb
        clear hb
        refine wpOp_of rfl rfl (fun K hK => ?_)
        go_simp
        go_wp2_with (go_at_call 25; refine (repeat_of (-1) (n) b w1 rfl (by omega) HBB.out).mono ?_; rintro e w2 ⟨G, rfl, hG1, hG2, hb2⟩)
        exact ⟨_, _, _, _, _, _, _, _, _, _, _, _, _, _, _, _, _, _, rfl, J.put HST 8 hf rfl hb2 ⟨G, rfl, hs.size, hG1, (Array.getElem?_eq_some_iff.1 hG2).1, ⟨_, hG2⟩⟩ (hs.trans (hb2.mono hs.size))⟩
      · intro f a w1 hf he hI
        refine ex18 hI (G := fun a => wpOp Try.prog _ _ 9 _ a w1) ?_
        clear hI
        intro u11 u12 u13 u14 u15 u16 u17 u18 u19 u20 u21 u22 u23 u24 u25 u26 u27 u5 J
        show wpOp Try.prog _ _ 9 _ _ w1
        have hs := J.s
        clear he
        refine wpOp_of rfl rfl (fun K hK => ?_)
        go_simp
        exact hK _ _ ⟨_, _, _, _, _, _, _, _, _, _, _, _, _, _, _, _, _, _, rfl, J.put HST 9 hf rfl (Below.refl _ _) rfl hs⟩
      · intro f a w1 hf he hI
        refine ex18 hI (G := fun a => wpOp Try.prog _ _ 10 _ a w1) ?_
        clear hI
        intro u11 u12 u13 u14 u15 u16 u17 u18 u19 u20 u21 u22 u23 u24 u25 u26 u27 u5 J
        show wpOp Try.prog _ _ 10 _ _ w1
        have f9 := he _ rfl ⟨9, .data⟩ (by simp) rfl
        obtain rfl : u20 = .slice ga n gc := J.ev 9 f9 rfl rfl
        have hs := J.s
        clear he
        refine wpOp_of rfl rfl (fun K hK => ?_)
        go_simp
        exact hK _ _ ⟨_, _, _, _, _, _, _, _, _, _, _, _, _, _, _, _, _, _, rfl, J.put HST 10 hf rfl (Below.refl _ _) rfl hs⟩
      · intro f a w1 hf he hI
        refine ex18 hI (G := fun a => wpOp Try.prog _ _ 11 _ a w1) ?_
        clear hI
        intro u11 u12 u13 u14 u15 u16 u17 u18 u19 u20 u21 u22 u23 u24 u25 u26 u27 u5 J
        show wpOp Try.prog _ _ 11 _ _ w1
        have f10 := he _ rfl ⟨10, .data⟩ (by simp) rfl
        obtain rfl : u21 = .int .i64 (n : Int) := J.ev 10 f10 rfl rfl
        have hs := J.s
        clear he
        have hmk := mk_ints2 n w1 (by omega)
        refine wpOp_of rfl rfl (fun K hK => ?_)
        go_simp
        exact hK _ _ ⟨_, _, _, _, _, _, _, _, _, _, _, _, _, _, _, _, _, _, rfl, J.put HST 11 hf rfl ((Below.refl _ _).alloc (Nat.le_refl _) _) (made_row n w1 hs.size) (hs.trans (((Below.refl _ _).alloc (Nat.le_refl _) _).mono hs.size))⟩
      · intro f a w1 hf he hI
        refine ex18 hI (G := fun a => wpOp Try.prog _ _ 12 _ a w1) ?_
        clear hI
        intro u11 u12 u13 u14 u15 u16 u17 u18 u19 u20 u21 u22 u23 u24 u25 u26 u27 u5 J
        show wpOp Try.prog _ _ 12 _ _ w1
        have hs := J.s
        clear he
        refine wpOp_of rfl rfl (fun K hK => ?_)
        go_simp
        exact hK _ _ ⟨_, _, _, _, _, _, _, _, _, _, _, _, _, _, _, _, _, _, rfl, J.put HST 12 hf rfl (Below.refl _ _) rfl hs⟩
      · intro f a w1 hf he hI
        refine ex18 hI (G := fun a => wpOp Try.prog _ _ 13 _ a w1) ?_
        clear hI
        intro u11 u12 u13 u14 u15 u16 u17 u18 u19 u20 u21 u22 u23 u24 u25 u26 u27 u5 J
        show wpOp Try.prog _ _ 13 _ _ w1
        have f12 := he _ rfl ⟨12, .data⟩ (by simp) rfl
        obtain rfl : u23 = .slice ga n gc := J.ev 12 f12 rfl rfl
        have hs := J.s
        clear he
        refine wpOp_of rfl rfl (fun K hK => ?_)
        go_simp
        exact hK _ _ ⟨_, _, _, _, _, _, _, _, _, _, _, _, _, _, _, _, _, _, rfl, J.put HST 13 hf rfl (Below.refl _ _) rfl hs⟩
      · intro f a w1 hf he hI
        refine ex18 hI (G := fun a => wpOp Try.prog _ _ 14 _ a w1) ?_
        clear hI
        intro u11 u12 u13 u14 u15 u16 u17 u18 u19 u20 u21 u22 u23 u24 u25 u26 u27 u5 J
        show wpOp Try.prog _ _ 14 _ _ w1
        have f13 := he _ rfl ⟨13, .data⟩ (by simp) rfl
        obtain rfl : u24 = .int .i64 (n : Int) := J.ev 13 f13 rfl rfl
        have hs := J.s
        clear he
        refine wpOp_of rfl rfl (fun K hK => ?_)
        go_simp
        go_wp2_with (go_at_call 61; refine (newQueue_any n w1 hn0 hn).mono ?_; rintro e w2 ⟨bq, cap, g, s, p, B, rfl, q1, q2, q3, q4, q5, q6⟩)
        exact ⟨_, _, _, _, _, _, _, _, _, _, _, _, _, _, _, _, _, _, rfl, J.put HST 14 hf rfl q6 ⟨bq, cap, g, s, p, B, rfl, hs.size, q1, q2, q3, q4.cell.2, q4, q5⟩ (hs.trans (q6.mono hs.size))⟩
      · intro f a w1 hf he hI
        refine ex18 hI (G := fun a => wpOp Try.prog _ _ 15 _ a w1) ?_
        clear hI
        intro u11 u12 u13 u14 u15 u16 u17 u18 u19 u20 u21 u22 u23 u24 u25 u26 u27 u5 J
        show wpOp Try.prog _ _ 15 _ _ w1
        have f0 := he _ rfl ⟨0, .data⟩ (by simp) rfl
        obtain rfl : u11 = .slice ga n gc := J.ev 0 f0 rfl rfl
        have f4 := he _ rfl ⟨4, .data⟩ (by simp) rfl
        have f8 := he _ rfl ⟨8, .data⟩ (by simp) rfl
        have f11 := he _ rfl ⟨11, .data⟩ (by simp) rfl
        have f14 := he _ rfl ⟨14, .data⟩ (by simp) rfl
        have hs := J.s
        clear he
        obtain ⟨lo, hi, J1, J2⟩ := J.both
        obtain ⟨⟨bo, rfl, o0, o1, o2, o3⟩, -⟩ := J1 4 (RowV w.heap.size (-1) (last + 1)) u15 f4 rfl rfl
        obtain ⟨⟨bh, rfl, h0, h1, h2, h3⟩, -⟩ := J1 8 (RowV w.heap.size (-1) n) u19 f8 rfl rfl
        obtain ⟨⟨bn, rfl, n0, n1, n2, n3⟩, -⟩ := J1 11 (RowV w.heap.size 0 n) u22 f11 rfl rfl
        obtain ⟨⟨bq, cap, g, s, p, B, rfl, q0, q1, q2, q3, q4, q5, q6⟩, -⟩ := J1 14 (QueV w.heap.size n) u25 f14 rfl rfl
        have ap1 := J2 4 8 f4 f8 (by decide)
        have ap2 := J2 4 11 f4 f11 (by decide)
        have ap3 := J2 4 14 f4 f14 (by decide)
        have ap4 := J2 8 11 f8 f11 (by decide)
        have ap5 := J2 8 14 f8 f14 (by decide)
        have ap6 := J2 11 14 f11 f14 (by decide)
        have HW := Lib.hid (pre_of (ga := ga) (gc := gc) o0 o1 o2 o3 h0 h1 h2 h3 n0 n1 n2 n3 q0 q1 q2 q3 q4 q5 q6 ap1 ap2 ap3 ap4 ap5 ap6 w1.heap.size w1.heap.size)
        refine wpOp_of rfl rfl (fun K hK => ?_)
        go_simp
        exact hK _ _ ⟨_, _, _, _, _, _, _, _, _, _, _, _, _, _, _, _, _, _, rfl, J.put HST 15 hf rfl (Below.refl _ _) HW.out hs⟩
      · intro f a w1 hf he hI
        refine ex18 hI (G := fun a => wpOp Try.prog _ _ 16 _ a w1) ?_
        clear hI
        intro u11 u12 u13 u14 u15 u16 u17 u18 u19 u20 u21 u22 u23 u24 u25 u26 u27 u5 J
        show wpOp Try.prog _ _ 16 _ _ w1
        have f15 := he _ rfl ⟨15, .data⟩ (by simp) rfl
        have hs := J.s
        clear he
        obtain ⟨lo, hi, ⟨K, rfl, hpre⟩, -⟩ := J.get 15 f15 (P := AggV w.heap.size ga gc n last) (u := u26) rfl rfl
        have HPRE := Lib.hid hpre
        clear hpre
        refine wpOp_of rfl rfl (fun K hK => ?_)
        go_simp
        exact hK _ _ ⟨_, _, _, _, _, _, _, _, _, _, _, _, _, _, _, _, _, _, rfl, J.put HST 16 hf rfl ((Below.refl _ _).alloc (Nat.le_refl _) _) (box_of HPRE.out HGT.out HGN.out hs hs.size _ _) (hs.trans (((Below.refl _ _).alloc (Nat.le_refl _) _).mono hs.size))⟩
      · intro f a w1 hf he hI
        refine ex18 hI (G := fun a => wpOp Try.prog _ _ 17 _ a w1) ?_
        clear hI
        intro u11 u12 u13 u14 u15 u16 u17 u18 u19 u20 u21 u22 u23 u24 u25 u26 u27 u5 J
        show wpOp Try.prog _ _ 17 _ _ w1
        have f16 := he _ rfl ⟨16, .data⟩ (by simp) rfl
        have hs := J.s
        clear he
        obtain ⟨lo, hi, hpt, -⟩ := J.get 16 f16 (P := PtrV w.heap.size ga gc n last gs) (u := u27) rfl rfl
        have HPT := Lib.hid hpt
        clear hpt
        refine wpOp_of rfl rfl (fun K hK => ?_)
        go_simp
        exact hK _ _ ⟨_, _, _, _, _, _, _, _, _, _, _, _, _, _, _, _, _, _, rfl, J.put HST 17 hf rfl (Below.refl _ _) HPT.out hs⟩
    · intro f a w1 hall hI
      obtain ⟨u11, u12, u13, u14, u15, u16, u17, u18, u19, u20, u21, u22, u23, u24, u25, u26, u27, u5, rfl, J⟩ := hI
      obtain ⟨lo, hi, hpt, -⟩ := J.get 17 (hall 17 (by decide)) (P := PtrV w.heap.size ga gc n last gs) (u := u5) rfl rfl
      have hs := J.s
      clear J hall
      have HPT : Hid (PtrV w.heap.size ga gc n last gs 0 0 w1 u5) := Lib.hid hpt
      have HS2 := Lib.hid hs
      clear hpt hs
      go_wp2_with fail
      go_meet
      exact ⟨HPT, HS2⟩
  case rest =>
    obtain ⟨hpt, HB0⟩ := hcut
    clear HST hw1
    obtain ⟨K, rfl, hso, hKV, hKW, hga, hgc⟩ := hpt.out
    obtain ⟨wo, rfl⟩ : ∃ wo : World, wo = wc := ⟨_, rfl⟩
    obtain rfl : n = gs.length := HGN.out.symm
    have hV2 : K.V ≤ 100000000 := by omega
    have HGK : Hid (GG gs K.V) := Lib.hid (by rw [hKV]; exact HGG.out)
    have HW := Lib.hid hKW
    have HGA : Hid (K.ga = ga ∧ K.gc = gc) := Lib.hid ⟨hga, hgc⟩
    have HSO : Hid (∃ op, So K gs wo (.slice none 0 0) (.slice none 0 0) op (List.replicate gs.length (-1)) (List.replicate gs.length 0) (List.replicate gs.length 0) [] [] ∧ OpenTo gs K.V op 0) := Lib.hid ⟨_, hso, by rw [← hKV]; exact open_start gs K.V⟩
    clear hpt hso hKV hga hgc HGG
    rw [← hKW] at HB0
    clear hKW
    go_wp2_with fail
    go_loopw [30] (fun i wr => ∃ k : Nat, k ≤ gs.length ∧ i = .int .i64 k ∧ Hid (∃ op, So K gs wr (.slice none 0 0) (.slice none 0 0) op (List.replicate gs.length (-1)) (List.replicate gs.length 0) (List.replicate gs.length 0) [] [] ∧ OpenTo gs K.V op k) ∧ Hid (Below K.W w wr)) (fun i _ => gs.length - (intOf i).toNat)
    case atStart => exact ⟨0, Nat.zero_le _, rfl, HSO, HB0⟩
    case round =>
      clear HSO HB0
      obtain ⟨k, hk, rfl, HSO, HB⟩ := hrel
      obtain ⟨wi, rfl⟩ : ∃ wi : World, wi = wr := ⟨_, rfl⟩
      by_cases hlt : k < gs.length
      · obtain ⟨op, hs, ho⟩ := HSO.out
        obtain ⟨b, off, hga, hgb, g0, g1, g2⟩ := hs.gts.at3 hlt
        have hga2 : ga = some ⟨b, off, none⟩ := by rw [← HGA.out.1]; exact hga
        have d1 : (k : Int) < (gs.length : Int) := by omega
        have d2 : 0 ≤ (k : Int) := by omega
        obtain ⟨hlc, -, -⟩ := lit3_at HL3.out k
        have hvl := HGK.out.l k hlt
        obtain ⟨v, hv⟩ : ∃ v : Nat, vL gs k = (v : Int) := ⟨(vL gs k).toNat, by omega⟩
        rw [hv] at hvl
        obtain ⟨c, hc⟩ : ∃ c, c = (gs.getD k (0, 0, 0)).1 := ⟨_, rfl⟩
        obtain ⟨x1, hx1⟩ : ∃ x, x = (gs.getD k (0, 0, 0)).2.1 := ⟨_, rfl⟩
        obtain ⟨x2, hx2⟩ : ∃ x, x = (gs.getD k (0, 0, 0)).2.2 := ⟨_, rfl⟩
        rw [← hc] at g0 hlc
        rw [← hx1] at g1
        rw [← hx2] at g2
        have HVV : Hid (litVar c = (v : Int)) := Lib.hid (by
          have := hv
          unfold vL at this
          rw [← hc] at this
          rw [var_of hlc, this])
        subst hga2
        have HST := Lib.hid (ho.step hv (by omega))
        have hb1 : Below wi.heap.size wi (wi.alloc (.cells #[.int .i64 c, .int .i64 x1, .int .i64 x2] 47)) := (Below.refl _ _).alloc (Nat.le_refl _) _
        have HS1 := Lib.hid (hs.on hb1)
        have HB1 : Hid (Below K.W w (wi.alloc (.cells #[.int .i64 c, .int .i64 x1, .int .i64 x2] 47))) := Lib.hid (HB.out.trans (hb1.mono hs.lt.2.2.2.2))
        have HBOX := Lib.hid (blk_new wi #[.int .i64 c, .int .i64 x1, .int .i64 x2] 47)
        have hvlt : v < op.length := by rw [ho.len]; omega
        have v1 : (v : Int) < (K.V : Int) := by omega
        have v2 : 0 ≤ (v : Int) := by omega
        clear hs ho hc hx1 hx2 hv hvl hlc hb1 hga
        go_upto_region 5 with fail
        obtain ⟨wj, hwj⟩ : ∃ wj, wj = wi.alloc (.cells #[.int .i64 c, .int .i64 x1, .int .i64 x2] 47) := ⟨_, rfl⟩
        rw [← hwj] at HS1 HB1 HBOX ⊢
        obtain ⟨Y, hY⟩ : ∃ Y, Y = wi.heap.size := ⟨_, rfl⟩
        rw [← hY] at HBOX ⊢
        clear hwj hY g0 g1 g2 hgb
        have s2 := HS1.out.on ((Below.refl wj.heap.size wj).drew)
        obtain ⟨-, z1, -, -, -, -, -⟩ := s2.cells
        obtain ⟨lZ, lo, -, -, -⟩ := s2.lt
        have y0 : wj.drew.cell? ⟨Y, 0, none⟩ = some (.int .i64 c) := ((HBOX.out.drewN 1).cell 0).1
        have ly : Y < wj.drew.heap.size := (HBOX.out.drewN 1).lt
        obtain ⟨p0, p1⟩ := s2.atO hvlt
        have HN := Lib.hid (s2.setO v (k : Int))
        have HB2 : Hid (Below K.W w (wj.drew.setCell ⟨K.bo, v, none⟩ (.int .i64 (k : Int)))) := Lib.hid (HB1.out.drew.setCell (p := ⟨K.bo, v, none⟩) (by exact s2.low.2.1) _)
        clear s2 HS1 HB1 HBOX
        have HSO2 : Hid (∃ op, So K gs (wj.drew.setCell ⟨K.bo, v, none⟩ (.int .i64 (k : Int))) (.slice none 0 0) (.slice none 0 0) op (List.replicate gs.length (-1)) (List.replicate gs.length 0) (List.replicate gs.length 0) [] [] ∧ OpenTo gs K.V op (k + 1)) := Lib.hid ⟨_, HN.out, HST.out⟩
        clear HN
        refine wp_region_still_tail 9 (by kernel_rfl) (by kernel_rfl) ?_
        simp only [List.take_succ_cons, List.take_zero, List.drop_succ_cons, List.drop_zero]
        generalize hW : ({ heap := wj.heap, tape := wj.tape, drawn := wj.drawn + 1, os := wj.os, output := wj.output } : World) = W
        have hWD : wj.drew = W := hW
        rw [hWD] at z1 y0 p0 p1 HSO2 HB2 lZ lo ly
        clear hW hWD
        repeat (first | still_step | (refine wpStill_step (fun K hK => ?_); go_simp; refine ⟨_, Var_q HVV.out W, hK _ ?_⟩; clear hK K))
        refine wpStill_nil ?_
        go_wp2_with fail
        go_roundw
        case rel => exact ⟨k + 1, by omega, by go_num, HSO2, HB2⟩
        case measure => simp [intOf]; omega
      · obtain rfl : gs.length = k := by omega
        have HA : Hid (At K gs 0 false 0 wi) := Lib.hid (by
          obtain ⟨op, hs, ho⟩ := HSO.out
          exact ⟨_, _, op, _, _, _, _, _, _, hs, ho.inv⟩)
        clear HSO hlt hk
        go_wp2_with fail
        go_loopw [47] (fun i wr => ∃ k : Nat, k ≤ gs.length ∧ i = .int .i64 k ∧ Hid (At K gs k false 0 wr) ∧ Hid (Below K.W w wr)) (fun i _ => gs.length - (intOf i).toNat)
        case atStart => exact ⟨0, Nat.zero_le _, rfl, HA, HB⟩
        case round =>
          clear HA HB
          obtain ⟨k, hk, rfl, HA, HB⟩ := hrel
          obtain ⟨wi, rfl⟩ : ∃ wi : World, wi = wr := ⟨_, rfl⟩
          by_cases hlt : k < gs.length
          · obtain ⟨tv, ov, op, heads, next, P, L, told, C, hs, hi⟩ := HA.out
            have HSET := Lib.hid (settle_any K gs wi tv ov op heads next P [] L (k + 1) k [] told C hs (hi.begin_ hlt) HGK.out HL3.out hn hV2)
            have d1 : (k : Int) < (gs.length : Int) := by omega
            have d2 : 0 ≤ (k : Int) := by omega
            clear hs hi
            go_wp2_with fail
            go_at_call 62; refine HSET.out.mono ?_; rintro e w1 ⟨rfl, tv1, heads1, next1, P1, T1, C1, s1, i1, b1, -⟩
            obtain ⟨-, -, -, -, z4, -, -⟩ := s1.cells
            have lZ := s1.lt.1
            have HTK := Lib.hid (take_at K gs w1 tv1 ov op heads1 next1 P1 T1 L (k + 1) told C1 s1 i1 HGK.out hn)
            have HB1 := Lib.hid (HB.out.trans b1)
            clear s1 i1 b1
            go_wp2_with fail
            go_at_call 63; refine HTK.out.mono ?_; rintro e w2 ⟨b, x, rfl, ha, hb2, -⟩
            have HA2 := Lib.hid ha
            have HB2 := Lib.hid (HB1.out.trans hb2)
            clear ha hb2 z4 lZ
            go_wp2_with fail
            go_loopw [9, 10] (fun q ok wr => ∃ (b : Bool) (x : Nat), q = .int .i64 (x : Int) ∧ ok = .bool b ∧ Hid (At K gs (k + 1) b x wr) ∧ Hid (Below K.W w wr)) (fun _ _ wr => gs.length - lenO K.Z wr)
            case atStart => exact ⟨b, x, rfl, rfl, HA2, HB2⟩
            case round =>
              clear HA2 HB2
              obtain ⟨b, x, rfl, rfl, HA2, HB2⟩ := hrel
              obtain ⟨w3, rfl⟩ : ∃ w3 : World, w3 = wr := ⟨_, rfl⟩
              cases b with
              | false =>
                go_wp2_with fail
                go_roundw
                case rel => exact ⟨k + 1, by omega, by go_num, HA2, HB2⟩
                case measure => simp [intOf]; omega
              | true =>
                obtain ⟨tv3, ov3, op3, heads3, next3, P3, T3, L3, told3, C3, l3, s3, hx, i3, c3⟩ := HA2.out
                have hvl := HGK.out.l x hx
                obtain ⟨V, hV⟩ : ∃ V : Nat, vL gs x = (V : Int) := ⟨(vL gs x).toNat, by omega⟩
                have HTELL := Lib.hid (tell_any K gs w3 tv3 ov3 op3 heads3 next3 P3 T3 L3 (k + 1) x l3 told3 C3 V hV s3 (by rw [hV, Int.toNat_natCast] at i3; exact i3) c3 hx HGK.out HL3.out hn hV2)
                have HLN := Lib.hid s3.lenO
                have HLL : Hid (L3.length + 1 ≤ gs.length) := Lib.hid (by have := i3.len; rw [List.length_append, List.length_singleton] at this; exact this)
                clear s3 i3 c3 hvl hV
                go_wp2_with fail
                go_at_call 64; refine HTELL.out.mono ?_; rintro e w4 ⟨rfl, tv4, ov4, heads4, next4, P4, T4, C4, s4, i4, b4⟩
                obtain ⟨-, -, -, -, z4, -, -⟩ := s4.cells
                have lZ := s4.lt.1
                have HTK := Lib.hid (take_at K gs w4 tv4 ov4 _ heads4 next4 P4 T4 _ (k + 1) told3 C4 s4 i4 HGK.out hn)
                have HB4 := Lib.hid (HB2.out.trans b4)
                clear s4 i4 b4
                go_wp2_with fail
                go_at_call 63; refine HTK.out.mono ?_; rintro e w5 ⟨b, x5, rfl, ha, hb5, hln⟩
                have HA5 := Lib.hid ha
                have HB5 := Lib.hid (HB4.out.trans hb5)
                have HLN5 : Hid (lenO K.Z w5 = L3.length + 1) := Lib.hid (by rw [hln, List.length_append, List.length_singleton])
                clear ha hb5 hln z4 lZ
                go_wp2_with fail
                go_roundw
                case rel => exact ⟨b, x5, by go_num, by go_num, HA5, HB5⟩
                case measure => rw [HLN.out, HLN5.out]; have := HLL.out; omega
          · obtain rfl : gs.length = k := by omega
            have HE : Hid (∃ ov, wi.cell? ⟨K.Z, 5, none⟩ = some ov ∧ K.Z < wi.heap.size ∧ Sorted gs w (.returned ov) wi) := Lib.hid (by
              obtain ⟨tv, ov, op, heads, next, P, L, told, C, hs, hi⟩ := HA.out
              refine ⟨ov, hs.cells.2.2.2.2.2.1, hs.lt.1, ov, rfl, ?_, by rw [← HW.out]; exact HB.out⟩
              rw [hi.done (zero_of hs.q.ok.wf), ← HW.out]
              exact hs.ord)
            obtain ⟨ov, z5, lZ, he⟩ := HE.out
            have HE2 := Lib.hid he
            clear he HE hlt hk
            go_wp2_with fail
            go_ret
            exact HE2.out
end Go.Proofs.Ytbpjflghkkkenaa.row

/- sorted, of no gates. (Printed by mkZo.py.) -/
namespace Go.Proofs.Ytbpjflghkkkenaa.row
set_option maxRecDepth 100000
open Go.RowKit
open Go.Proofs.Ytbpjflghkkkenaa.heap Go.Proofs.Ytbpjflghkkkenaa.hpf Go.Proofs.Ytbpjflghkkkenaa.fns Go.Proofs.Ytbpjflghkkkenaa.rinv

def AggN (ga : Option Addr) (gc : Nat) : VP := fun _ _ _ u => ∃ a b c : Nat × Nat, u = .agg #[.slice ga 0 gc, .slice (some ⟨a.1, 0, none⟩) a.2 a.2, .slice (some ⟨b.1, 0, none⟩) b.2 b.2, .slice (some ⟨c.1, 0, none⟩) c.2 c.2, .slice none 0 0, .slice none 0 0]
def PtrN (ga : Option Addr) (gc : Nat) : VP := fun _ _ w u => ∃ (Z : Nat) (a b c : Nat × Nat), u = .pointer (some ⟨Z, 0, none⟩) ∧ Blk w Z #[.slice ga 0 gc, .slice (some ⟨a.1, 0, none⟩) a.2 a.2, .slice (some ⟨b.1, 0, none⟩) b.2 b.2, .slice (some ⟨c.1, 0, none⟩) c.2 c.2, .slice none 0 0, .slice none 0 0]
set_option maxHeartbeats 6400000 in
theorem sorted_none (last : Nat) (ga : Option Addr) (gc : Nat) (w : World) (hl : last ≤ 50000000) :
    Calls Try.prog 46 #[.slice ga 0 gc, .int .i64 (last : Int)] w (Sorted [] w) := by
  obtain ⟨st1, st2, -, -, -⟩ := stays_all w.heap.size ga gc 0 last []
  have st4 : Stays (AggN ga gc) := fun _ _ _ _ _ h _ _ => h
  have st5 : Stays (PtrN ga gc) := by
    rintro lo hi u u' v ⟨Z, a, b, c, e, h⟩ - hb; exact ⟨Z, a, b, c, e, h.on hb⟩
  have HST : ∀ P ∈ ([Ev (.slice ga 0 gc), Lit1, Ev (.int .i64 (last : Int)), Ev (.int .i64 ((last : Int) + 1)), RowV w.heap.size (-1) (last + 1), Lit1, Ev (.slice ga 0 gc), Ev (.int .i64 0), RowV w.heap.size (-1) 0, Ev (.slice ga 0 gc), Ev (.int .i64 0), RowV w.heap.size 0 0, Ev (.slice ga 0 gc), Ev (.int .i64 0), Ev (.slice none 0 0), AggN ga gc, PtrN ga gc, PtrN ga gc] : List VP), Stays P := by
    intro P hP
    simp only [List.mem_cons, List.not_mem_nil, or_false] at hP
    rcases hP with rfl | rfl | rfl | rfl | rfl | rfl | rfl | rfl | rfl | rfl | rfl | rfl | rfl | rfl | rfl | rfl | rfl | rfl <;> first | exact stays_ev _ | exact st1 | exact st2 _ _ | exact st4 | exact st5
  clear st1 st2 st4 st5
  have hw1 : IntKind.i64.wrap ((last : Int) + 1) = (last : Int) + 1 := IntWalk.i64_in _ (by omega)
  go_enter Try.func46, Try.ntmps46
  go_upto_region 1 with fail
  go_cut [5] (fun u wx => Hid (PtrN ga gc 0 0 wx u) ∧ Hid (Below w.heap.size w wx))
  case first =>
    refine wp_region_inv (by kernel_rfl) (by kernel_rfl) (fun f a w' => ∃ u11 u12 u13 u14 u15 u16 u17 u18 u19 u20 u21 u22 u23 u24 u25 u26 u27 u5, a = ⟨#[.slice ga 0 gc, .int .i64 (last : Int), undef, undef, .slice none 0 0, u5, undef, undef, undef, undef, undef, u11, u12, u13, u14, u15, u16, u17, u18, u19, u20, u21, u22, u23, u24, u25, u26, u27, undef, undef, undef, undef, undef, undef, undef, undef, undef, undef, undef, undef, undef, undef, undef, undef, undef, undef, undef, undef, undef, undef, undef, undef, undef, undef, undef, undef, undef, undef, undef, undef, undef, undef, undef, undef, undef, undef, undef, undef, undef, undef, undef, undef, undef, undef, undef, undef, undef, undef], []⟩ ∧ Jo (fun u => Below w.heap.size w u) [Ev (.slice ga 0 gc), Lit1, Ev (.int .i64 (last : Int)), Ev (.int .i64 ((last : Int) + 1)), RowV w.heap.size (-1) (last + 1), Lit1, Ev (.slice ga 0 gc), Ev (.int .i64 0), RowV w.heap.size (-1) 0, Ev (.slice ga 0 gc), Ev (.int .i64 0), RowV w.heap.size 0 0, Ev (.slice ga 0 gc), Ev (.int .i64 0), Ev (.slice none 0 0), AggN ga gc, PtrN ga gc, PtrN ga gc] f [u11, u12, u13, u14, u15, u16, u17, u18, u19, u20, u21, u22, u23, u24, u25, u26, u27, u5] w') ?_ ?_ ?_
    · exact ⟨_, _, _, _, _, _, _, _, _, _, _, _, _, _, _, _, _, _, rfl, Jo.start ((Below.refl _ _).drew) rfl⟩
    · refine all_of18 ?_ ?_ ?_ ?_ ?_ ?_ ?_ ?_ ?_ ?_ ?_ ?_ ?_ ?_ ?_ ?_ ?_ ?_
      · intro f a w1 hf he hI
        refine ex18 hI (G := fun a => wpOp Try.prog _ _ 0 _ a w1) ?_
        clear hI
        intro u11 u12 u13 u14 u15 u16 u17 u18 u19 u20 u21 u22 u23 u24 u25 u26 u27 u5 J
        show wpOp Try.prog _ _ 0 _ _ w1
        have hs := J.s
        clear he
        refine wpOp_of rfl rfl (fun K hK => ?_)
        go_simp
        exact hK _ _ ⟨_, _, _, _, _, _, _, _, _, _, _, _, _, _, _, _, _, _, rfl, J.put HST 0 hf rfl (Below.refl _ _) rfl hs⟩
      · intro f a w1 hf he hI
        refine ex18 hI (G := fun a => wpOp Try.prog _ _ 1 _ a w1) ?_
        clear hI
        intro u11 u12 u13 u14 u15 u16 u17 u18 u19 u20 u21 u22 u23 u24 u25 u26 u27 u5 J
        show wpOp Try.prog _ _ 1 _ _ w1
        have hs := J.s
        clear he
        refine wpOp_of rfl rfl (fun K hK => ?_)
        go_simp
        exact hK _ _ ⟨_, _, _, _, _, _, _, _, _, _, _, _, _, _, _, _, _, _, rfl, J.put HST 1 hf rfl ((Below.refl _ _).alloc (Nat.le_refl _) _) ⟨_, rfl, blk_new _ _ _⟩ (hs.trans (((Below.refl _ _).alloc (Nat.le_refl _) _).mono hs.size))⟩
      · intro f a w1 hf he hI
        refine ex18 hI (G := fun a => wpOp Try.prog _ _ 2 _ a w1) ?_
        clear hI
        intro u11 u12 u13 u14 u15 u16 u17 u18 u19 u20 u21 u22 u23 u24 u25 u26 u27 u5 J
        show wpOp Try.prog _ _ 2 _ _ w1
        have hs := J.s
        clear he
        refine wpOp_of rfl rfl (fun K hK => ?_)
        go_simp
        exact hK _ _ ⟨_, _, _, _, _, _, _, _, _, _, _, _, _, _, _, _, _, _, rfl, J.put HST 2 hf rfl (Below.refl _ _) rfl hs⟩
      · intro f a w1 hf he hI
        refine ex18 hI (G := fun a => wpOp Try.prog _ _ 3 _ a w1) ?_
        clear hI
        intro u11 u12 u13 u14 u15 u16 u17 u18 u19 u20 u21 u22 u23 u24 u25 u26 u27 u5 J
        show wpOp Try.prog _ _ 3 _ _ w1
        have f2 := he _ rfl ⟨2, .data⟩ (by simp) rfl
        obtain rfl : u13 = .int .i64 (last : Int) := J.ev 2 f2 rfl rfl
        have hs := J.s
        clear he
        refine wpOp_of rfl rfl (fun K hK => ?_)
        go_simp
        exact hK _ _ ⟨_, _, _, _, _, _, _, _, _, _, _, _, _, _, _, _, _, _, rfl, J.put HST 3 hf rfl (Below.refl _ _) rfl hs⟩
      · intro f a w1 hf he hI
        refine ex18 hI (G := fun a => wpOp Try.prog _ _ 4 _ a w1) ?_
        clear hI
        intro u11 u12 u13 u14 u15 u16 u17 u18 u19 u20 u21 u22 u23 u24 u25 u26 u27 u5 J
        show wpOp Try.prog _ _ 4 _ _ w1
        have f1 := he _ rfl ⟨1, .data⟩ (by simp) rfl
        have f3 := he _ rfl ⟨3, .data⟩ (by simp) rfl
        obtain rfl : u14 = .int .i64 ((last : Int) + 1) := J.ev 3 f3 rfl rfl
        have hs := J.s
        clear he
        obtain ⟨lo, hi, ⟨b, rfl, hb⟩, -⟩ := J.get 1 f1 (P := Lit1) (u := u12) rfl rfl
        have HBB := Lib.hid hb
        clear hb
        refine wpOp_of rfl rfl (fun K hK => ?_)
        go_simp
        go_wp2_with (go_at_call 25; refine (repeat_of (-1) (last + 1) b w1 rfl (by omega) HBB.out).mono ?_; rintro e w2 ⟨G, rfl, hG1, hG2, hb2⟩)
        exact ⟨_, _, _, _, _, _, _, _, _, _, _, _, _, _, _, _, _, _, rfl, J.put HST 4 hf rfl hb2 ⟨G, rfl, hs.size, hG1, (Array.getElem?_eq_some_iff.1 hG2).1, ⟨_, hG2⟩⟩ (hs.trans (hb2.mono hs.size))⟩
      · intro f a w1 hf he hI
        refine ex18 hI (G := fun a => wpOp Try.prog _ _ 5 _ a w1) ?_
        clear hI
        intro u11 u12 u13 u14 u15 u16 u17 u18 u19 u20 u21 u22 u23 u24 u25 u26 u27 u5 J
        show wpOp Try.prog _ _ 5 _ _ w1
        have hs := J.s
        clear he
        refine wpOp_of rfl rfl (fun K hK => ?_)
        go_simp
        exact hK _ _ ⟨_, _, _, _, _, _, _, _, _, _, _, _, _, _, _, _, _, _, rfl, J.put HST 5 hf rfl ((Below.refl _ _).alloc (Nat.le_refl _) _) ⟨_, rfl, blk_new _ _ _⟩ (hs.trans (((Below.refl _ _).alloc (Nat.le_refl _) _).mono hs.size))⟩
      · intro f a w1 hf he hI
        refine ex18 hI (G := fun a => wpOp Try.prog _ _ 6 _ a w1) ?_
        clear hI
        intro u11 u12 u13 u14 u15 u16 u17 u18 u19 u20 u21 u22 u23 u24 u25 u26 u27 u5 J
        show wpOp Try.prog _ _ 6 _ _ w1
        have hs := J.s
        clear he
        refine wpOp_of rfl rfl (fun K hK => ?_)
        go_simp
        exact hK _ _ ⟨_, _, _, _, _, _, _, _, _, _, _, _, _, _, _, _, _, _, rfl, J.put HST 6 hf rfl (Below.refl _ _) rfl hs⟩
      · intro f a w1 hf he hI
        refine ex18 hI (G := fun a => wpOp Try.prog _ _ 7 _ a w1) ?_
        clear hI
        intro u11 u12 u13 u14 u15 u16 u17 u18 u19 u20 u21 u22 u23 u24 u25 u26 u27 u5 J
        show wpOp Try.prog _ _ 7 _ _ w1
        have f6 := he _ rfl ⟨6, .data⟩ (by simp) rfl
        obtain rfl : u17 = .slice ga 0 gc := J.ev 6 f6 rfl rfl
        have hs := J.s
        clear he
        refine wpOp_of rfl rfl (fun K hK => ?_)
        go_simp
        exact hK _ _ ⟨_, _, _, _, _, _, _, _, _, _, _, _, _, _, _, _, _, _, rfl, J.put HST 7 hf rfl (Below.refl _ _) rfl hs⟩
      · intro f a w1 hf he hI
        refine ex18 hI (G := fun a => wpOp Try.prog _ _ 8 _ a w1) ?_
        clear hI
        intro u11 u12 u13 u14 u15 u16 u17 u18 u19 u20 u21 u22 u23 u24 u25 u26 u27 u5 J
        show wpOp Try.prog _ _ 8 _ _ w1
        have f5 := he _ rfl ⟨5, .data⟩ (by simp) rfl
        have f7 := he _ rfl ⟨7, .data⟩ (by simp) rfl
        obtain rfl : u18 = .int .i64 0 := J.ev 7 f7 rfl rfl
        have hs := J.s
        clear he
        obtain ⟨lo, hi, ⟨b, rfl, hb⟩, -⟩ := J.get 5 f5 (P := Lit1) (u := u16) rfl rfl
        have HBB := Lib.hid hb
        clear hb
        refine wpOp_of rfl rfl (fun K hK => ?_)
        go_simp
        go_wp2_with (go_at_call 25; refine (repeat_of (-1) (0) b w1 rfl (by omega) HBB.out).mono ?_; rintro e w2 ⟨G, rfl, hG1, hG2, hb2⟩)
        exact ⟨_, _, _, _, _, _, _, _, _, _, _, _, _, _, _, _, _, _, rfl, J.put HST 8 hf rfl hb2 ⟨G, rfl, hs.size, hG1, (Array.getElem?_eq_some_iff.1 hG2).1, ⟨_, hG2⟩⟩ (hs.trans (hb2.mono hs.size))⟩
      · intro f a w1 hf he hI
        refine ex18 hI (G := fun a => wpOp Try.prog _ _ 9 _ a w1) ?_
        clear hI
        intro u11 u12 u13 u14 u15 u16 u17 u18 u19 u20 u21 u22 u23 u24 u25 u26 u27 u5 J
        show wpOp Try.prog _ _ 9 _ _ w1
        have hs := J.s
        clear he
        refine wpOp_of rfl rfl (fun K hK => ?_)
        go_simp
        exact hK _ _ ⟨_, _, _, _, _, _, _, _, _, _, _, _, _, _, _, _, _, _, rfl, J.put HST 9 hf rfl (Below.refl _ _) rfl hs⟩
      · intro f a w1 hf he hI
        refine ex18 hI (G := fun a => wpOp Try.prog _ _ 10 _ a w1) ?_
        clear hI
        intro u11 u12 u13 u14 u15 u16 u17 u18 u19 u20 u21 u22 u23 u24 u25 u26 u27 u5 J
        show wpOp Try.prog _ _ 10 _ _ w1
        have f9 := he _ rfl ⟨9, .data⟩ (by simp) rfl
        obtain rfl : u20 = .slice ga 0 gc := J.ev 9 f9 rfl rfl
        have hs := J.s
        clear he
        refine wpOp_of rfl rfl (fun K hK => ?_)
        go_simp
        exact hK _ _ ⟨_, _, _, _, _, _, _, _, _, _, _, _, _, _, _, _, _, _, rfl, J.put HST 10 hf rfl (Below.refl _ _) rfl hs⟩
      · intro f a w1 hf he hI
        refine ex18 hI (G := fun a => wpOp Try.prog _ _ 11 _ a w1) ?_
        clear hI
        intro u11 u12 u13 u14 u15 u16 u17 u18 u19 u20 u21 u22 u23 u24 u25 u26 u27 u5 J
        show wpOp Try.prog _ _ 11 _ _ w1
        have f10 := he _ rfl ⟨10, .data⟩ (by simp) rfl
        obtain rfl : u21 = .int .i64 0 := J.ev 10 f10 rfl rfl
        have hs := J.s
        clear he
        have hmk : (Instr.makeSlice 22 (.int .i64 0) (.int .i64 0)).run Try.prog w1 = .ok (.slice (some ⟨w1.heap.size, 0, none⟩) 0 0) (w1.alloc (.cells (madeCells #[.int .i64 0] 0) 3)) := mk_ints2 0 w1 (by omega)
        refine wpOp_of rfl rfl (fun K hK => ?_)
        go_simp
        exact hK _ _ ⟨_, _, _, _, _, _, _, _, _, _, _, _, _, _, _, _, _, _, rfl, J.put HST 11 hf rfl ((Below.refl _ _).alloc (Nat.le_refl _) _) (made_row 0 w1 hs.size) (hs.trans (((Below.refl _ _).alloc (Nat.le_refl _) _).mono hs.size))⟩
      · intro f a w1 hf he hI
        refine ex18 hI (G := fun a => wpOp Try.prog _ _ 12 _ a w1) ?_
        clear hI
        intro u11 u12 u13 u14 u15 u16 u17 u18 u19 u20 u21 u22 u23 u24 u25 u26 u27 u5 J
        show wpOp Try.prog _ _ 12 _ _ w1
        have hs := J.s
        clear he
        refine wpOp_of rfl rfl (fun K hK => ?_)
        go_simp
        exact hK _ _ ⟨_, _, _, _, _, _, _, _, _, _, _, _, _, _, _, _, _, _, rfl, J.put HST 12 hf rfl (Below.refl _ _) rfl hs⟩
      · intro f a w1 hf he hI
        refine ex18 hI (G := fun a => wpOp Try.prog _ _ 13 _ a w1) ?_
        clear hI
        intro u11 u12 u13 u14 u15 u16 u17 u18 u19 u20 u21 u22 u23 u24 u25 u26 u27 u5 J
        show wpOp Try.prog _ _ 13 _ _ w1
        have f12 := he _ rfl ⟨12, .data⟩ (by simp) rfl
        obtain rfl : u23 = .slice ga 0 gc := J.ev 12 f12 rfl rfl
        have hs := J.s
        clear he
        refine wpOp_of rfl rfl (fun K hK => ?_)
        go_simp
        exact hK _ _ ⟨_, _, _, _, _, _, _, _, _, _, _, _, _, _, _, _, _, _, rfl, J.put HST 13 hf rfl (Below.refl _ _) rfl hs⟩
      · intro f a w1 hf he hI
        refine ex18 hI (G := fun a => wpOp Try.prog _ _ 14 _ a w1) ?_
        clear hI
        intro u11 u12 u13 u14 u15 u16 u17 u18 u19 u20 u21 u22 u23 u24 u25 u26 u27 u5 J
        show wpOp Try.prog _ _ 14 _ _ w1
        have f13 := he _ rfl ⟨13, .data⟩ (by simp) rfl
        obtain rfl : u24 = .int .i64 0 := J.ev 13 f13 rfl rfl
        have hs := J.s
        clear he
        refine wpOp_of rfl rfl (fun K hK => ?_)
        go_simp
        go_wp2_with (go_at_call 61; refine (newQueue_none w1).mono ?_; rintro e w2 ⟨rfl, rfl⟩)
        exact ⟨_, _, _, _, _, _, _, _, _, _, _, _, _, _, _, _, _, _, rfl, J.put HST 14 hf rfl (Below.refl _ _) rfl hs⟩
      · intro f a w1 hf he hI
        refine ex18 hI (G := fun a => wpOp Try.prog _ _ 15 _ a w1) ?_
        clear hI
        intro u11 u12 u13 u14 u15 u16 u17 u18 u19 u20 u21 u22 u23 u24 u25 u26 u27 u5 J
        show wpOp Try.prog _ _ 15 _ _ w1
        have f0 := he _ rfl ⟨0, .data⟩ (by simp) rfl
        obtain rfl : u11 = .slice ga 0 gc := J.ev 0 f0 rfl rfl
        have f4 := he _ rfl ⟨4, .data⟩ (by simp) rfl
        have f8 := he _ rfl ⟨8, .data⟩ (by simp) rfl
        have f11 := he _ rfl ⟨11, .data⟩ (by simp) rfl
        have f14 := he _ rfl ⟨14, .data⟩ (by simp) rfl
        obtain rfl : u25 = .slice none 0 0 := J.ev 14 f14 rfl rfl
        have hs := J.s
        clear he
        obtain ⟨lo4, hi4, ⟨bo, rfl, -⟩, -⟩ := J.get 4 f4 (P := RowV w.heap.size (-1) (last + 1)) (u := u15) rfl rfl
        obtain ⟨lo8, hi8, ⟨bh, rfl, -⟩, -⟩ := J.get 8 f8 (P := RowV w.heap.size (-1) 0) (u := u19) rfl rfl
        obtain ⟨lo11, hi11, ⟨bn, rfl, -⟩, -⟩ := J.get 11 f11 (P := RowV w.heap.size 0 0) (u := u22) rfl rfl
        refine wpOp_of rfl rfl (fun K hK => ?_)
        go_simp
        exact hK _ _ ⟨_, _, _, _, _, _, _, _, _, _, _, _, _, _, _, _, _, _, rfl, J.put HST 15 hf rfl (Below.refl _ _) ⟨(bo, last + 1), (bh, 0), (bn, 0), rfl⟩ hs⟩
      · intro f a w1 hf he hI
        refine ex18 hI (G := fun a => wpOp Try.prog _ _ 16 _ a w1) ?_
        clear hI
        intro u11 u12 u13 u14 u15 u16 u17 u18 u19 u20 u21 u22 u23 u24 u25 u26 u27 u5 J
        show wpOp Try.prog _ _ 16 _ _ w1
        have f15 := he _ rfl ⟨15, .data⟩ (by simp) rfl
        have hs := J.s
        clear he
        obtain ⟨lo, hi, ⟨a, b, c, rfl⟩, -⟩ := J.get 15 f15 (P := AggN ga gc) (u := u26) rfl rfl
        refine wpOp_of rfl rfl (fun K hK => ?_)
        go_simp
        exact hK _ _ ⟨_, _, _, _, _, _, _, _, _, _, _, _, _, _, _, _, _, _, rfl, J.put HST 16 hf rfl ((Below.refl _ _).alloc (Nat.le_refl _) _) ⟨w1.heap.size, a, b, c, rfl, blk_new _ _ _⟩ (hs.trans (((Below.refl _ _).alloc (Nat.le_refl _) _).mono hs.size))⟩
      · intro f a w1 hf he hI
        refine ex18 hI (G := fun a => wpOp Try.prog _ _ 17 _ a w1) ?_
        clear hI
        intro u11 u12 u13 u14 u15 u16 u17 u18 u19 u20 u21 u22 u23 u24 u25 u26 u27 u5 J
        show wpOp Try.prog _ _ 17 _ _ w1
        have f16 := he _ rfl ⟨16, .data⟩ (by simp) rfl
        have hs := J.s
        clear he
        obtain ⟨lo, hi, hpt, -⟩ := J.get 16 f16 (P := PtrN ga gc) (u := u27) rfl rfl
        have HPT := Lib.hid hpt
        clear hpt
        refine wpOp_of rfl rfl (fun K hK => ?_)
        go_simp
        exact hK _ _ ⟨_, _, _, _, _, _, _, _, _, _, _, _, _, _, _, _, _, _, rfl, J.put HST 17 hf rfl (Below.refl _ _) HPT.out hs⟩
    · intro f a w1 hall hI
      obtain ⟨u11, u12, u13, u14, u15, u16, u17, u18, u19, u20, u21, u22, u23, u24, u25, u26, u27, u5, rfl, J⟩ := hI
      obtain ⟨lo, hi, hpt, -⟩ := J.get 17 (hall 17 (by decide)) (P := PtrN ga gc) (u := u5) rfl rfl
      have hs := J.s
      clear J hall
      have HPT : Hid (PtrN ga gc 0 0 w1 u5) := Lib.hid hpt
      have HS2 := Lib.hid hs
      clear hpt hs
      go_wp2_with fail
      go_meet
      exact ⟨HPT, HS2⟩
  case rest =>
    obtain ⟨hpt, HB⟩ := hcut
    obtain ⟨Z, a, b, c, rfl, hz⟩ := hpt.out
    obtain ⟨wo, rfl⟩ : ∃ wo : World, wo = wc := ⟨_, rfl⟩
    have lZ := hz.lt
    have HZ := Lib.hid hz
    clear HST hw1 hpt hz
    go_wp2_with fail
    go_loopw [30] (fun i wr => i = .int .i64 0 ∧ wr = wo) (fun _ _ => 0)
    case atStart => exact ⟨rfl, rfl⟩
    case round =>
      obtain ⟨rfl, rfl⟩ := hrel
      obtain ⟨wi, rfl⟩ : ∃ wi : World, wi = wr := ⟨_, rfl⟩
      go_wp2_with fail
      go_loopw [47] (fun i wr => i = .int .i64 0 ∧ wr = wi) (fun _ _ => 0)
      case atStart => exact ⟨rfl, rfl⟩
      case round =>
        obtain ⟨rfl, rfl⟩ := hrel
        have z5 : wr.cell? ⟨Z, 5, none⟩ = some (.slice none 0 0) := (HZ.out.cell 5).1
        go_wp2_with fail
        go_ret
        exact ⟨_, rfl, World.ownsRow_nil _ _ _ _, HB.out⟩
end Go.Proofs.Ytbpjflghkkkenaa.row
