/- The walk of the statement on the order in which things are popped. -/
import Derived.Test.YtpcpjpcejcgodaaKb
import Derived.Test.YtpcpjpcejcgodaaVr
namespace Go.Proofs.Ytpcpjpcejcgodaa.heap
open Go.RowKit
open Go.Proofs.Ytpcpjpcejcgodaa.fns Go.Proofs.Ytpcpjpcejcgodaa.hpf Go.Proofs.Ytpcpjpcejcgodaa.ints

/-- the first k of m things are in it -/
def Half (A B g s p m k : Nat) (w wx : World) : Prop :=
  ∃ tv S P T, Hp A B wx g s p tv m S P T ∧ AllW S ∧ Hok m S P T ∧ T.length = k ∧ (∀ x, k ≤ x → x < m → P.getD x 0 = 0) ∧ Below A w wx
theorem half_push (A B g s p m k : Nat) (w wx : World) (h : Half A B g s p m k w wx) (hk : k < m) (hm : m ≤ 100) :
    Calls Try.prog 6 #[.pointer (some ⟨g, 0, none⟩), .int .i64 (k : Int)] wx fun e w' => e = .returned (.int .i64 0) ∧ Half A B g s p m (k + 1) w w' := by
  obtain ⟨tv, S, P, T, h1, h2, h3, h4, h5, h6⟩ := h
  refine (Push_any A B g s p m k tv S P T wx h1 h2 h3 hk (h5 k (Nat.le_refl _) hk) (by omega) (by omega)).mono ?_
  rintro e w' ⟨rfl, tv', P', T', k1, k2, k3, k4, k5⟩
  refine ⟨rfl, tv', S, P', T', k1, h2, k2, by omega, fun x hx hxm => (k4 x).2 ?_, h6.trans k5⟩
  rw [getD_set (by rw [h3.wf.len]; exact hk), if_neg (by omega)]
  exact h5 x (by omega) hxm
theorem half_set (A B g s p m k x b : Nat) (w wx : World) (h : Half A B g s p m k w wx) (hx : x < m) (hk : k ≤ m) (hb : W64 b) (hm : m ≤ 100) :
    Calls Try.prog 7 #[.pointer (some ⟨g, 0, none⟩), .int .i64 (x : Int), .float .f64 b] wx fun e w' => e = .returned (.int .i64 0) ∧ Half A B g s p m k w w' := by
  obtain ⟨tv, S, P, T, h1, h2, h3, h4, h5, h6⟩ := h
  refine (Set_any A B g s p m x b tv S P T wx h1 h2 hb h3 hx (by omega) (by omega)).mono ?_
  rintro e w' ⟨rfl, P', T', k1, k2, k3, k4, k5⟩
  exact ⟨rfl, tv, S.set x b, P', T', k1, allW_set h2 hb, k2, by omega, fun y hy hym => (k3 y).2 (h5 y hy hym), h6.trans k5⟩
/-- j things are still in it; none of them stands ahead of the last one -/
def Left (A B g s p m j : Nat) (S : List Nat) (last : Int) (w wx : World) : Prop :=
  ∃ tv P T, Hp A B wx g s p tv m S P T ∧ Hok m S P T ∧ T.length = j ∧ (∀ y : Nat, last = (y : Int) → ∀ z, z < m → P.getD z 0 ≠ 0 → rank S y ≤ rank S z) ∧ Below A w wx
theorem pop_step (A B g s p m j : Nat) (S : List Nat) (last : Int) (w wx : World) (h : Left A B g s p m (j + 1) S last w wx) (hS : AllW S) (hj : j + 1 ≤ m) (hm : m ≤ 100) :
    Calls Try.prog 9 #[.pointer (some ⟨g, 0, none⟩)] wx fun r w' => ∃ x : Nat, r = .returned (.tuple #[.int .i64 (x : Int), .bool true]) ∧ x < m ∧ (∀ y : Nat, last = (y : Int) → rank S y ≤ rank S x) ∧ Left A B g s p m j S (x : Int) w w' := by
  obtain ⟨tv, P, T, h1, h2, h3, h4, h5⟩ := h
  obtain ⟨hxm, hpx⟩ := h2.wf.at_ 0 (by omega)
  refine (Pop_any A B g s p m (T.getD 0 0) j tv S P T wx h1 hS h2 h3 rfl (by omega) (by omega)).mono ?_
  rintro r w' ⟨rfl, tv', P', T', k1, k2, k3, k4, k5⟩
  refine ⟨_, rfl, hxm, fun y hy => h4 y hy _ hxm (by omega), tv', P', T', k1, k2, by omega, fun y hy z hz hz0 => ?_, h5.trans k5⟩
  obtain rfl : T.getD 0 0 = y := by omega
  have hz1 := fun e => hz0 ((k4 z).2 e)
  rw [getD_set (by rw [h2.wf.len]; exact hxm)] at hz1
  by_cases e : z = T.getD 0 0
  · rw [if_pos e] at hz1; exact absurd rfl hz1
  · rw [if_neg e] at hz1; exact h2.min hz hz1
theorem end_step (A B g s p m : Nat) (S : List Nat) (last : Int) (w wx : World) (h : Left A B g s p m 0 S last w wx) :
    Calls Try.prog 9 #[.pointer (some ⟨g, 0, none⟩)] wx fun e w' => e = .returned (.tuple #[.int .i64 0, .bool false]) ∧ wx = w' := by
  obtain ⟨tv, P, T, h1, -, h3, -, -⟩ := h
  obtain rfl : T = [] := List.eq_nil_of_length_eq_zero h3
  exact Pop_none A B g s p m tv S P wx h1
theorem len_step (A B g s p m j : Nat) (S : List Nat) (last : Int) (w wx : World) (h : Left A B g s p m j S last w wx) :
    Calls Try.prog 12 #[.pointer (some ⟨g, 0, none⟩)] wx fun e w' => e = .returned (.int .i64 j) ∧ wx = w' := by
  obtain ⟨tv, P, T, h1, -, h3, -, -⟩ := h
  rw [← h3]
  exact Len_any A B g s p m tv S P T wx h1
theorem score_step (A B g s p m j x : Nat) (S : List Nat) (last : Int) (w wx : World) (h : Left A B g s p m j S last w wx) (hx : x < m) :
    Calls Try.prog 11 #[.pointer (some ⟨g, 0, none⟩), .int .i64 (x : Int)] wx fun e w' => e = .returned (.float .f64 (S.getD x 0)) ∧ wx = w' := by
  obtain ⟨tv, P, T, h1, -, -, -, -⟩ := h
  exact Score_any A B g s p m x tv S P T wx h1 hx
theorem half_new (m : Nat) (w : World) (hm : m ≤ 100) : Calls Try.prog 5 #[.int .i64 m] w fun e w' => ∃ g s p B, e = .returned (.pointer (some ⟨g, 0, none⟩)) ∧ Half w.heap.size B g s p m 0 w w' := by
  refine (New_any m w (by omega)).mono ?_
  rintro e w' ⟨g, s, p, B, rfl, h1, h2⟩
  exact ⟨g, s, p, B, rfl, _, _, _, _, h1, allW_zero m, hok_nil m _, rfl, fun x _ hx => by simp [List.getD, hx], h2⟩
theorem Half.left {A B g s p m : Nat} {w wx : World} (h : Half A B g s p m m w wx) : ∃ S, AllW S ∧ Left A B g s p m m S (-1) w wx := by
  obtain ⟨tv, S, P, T, h1, h2, h3, h4, -, h6⟩ := h
  exact ⟨S, h2, tv, P, T, h1, h3, h4, fun y hy => by omega, h6⟩
theorem Half.bel {A B g s p m k : Nat} {w wx : World} (h : Half A B g s p m k w wx) : Below A w wx := by
  obtain ⟨_, _, _, _, _, _, _, _, _, h6⟩ := h; exact h6
theorem Left.bel {A B g s p m j : Nat} {S : List Nat} {last : Int} {w wx : World} (h : Left A B g s p m j S last w wx) : Below A w wx := by
  obtain ⟨_, _, _, _, _, _, _, h5⟩ := h; exact h5
theorem w64_at {bs : List Nat} (h : ∀ b ∈ bs, b < 18446744073709551616) (m i : Nat) : W64 ((bs.take m).getD i 0) := by
  unfold W64
  rcases Nat.lt_or_ge i (bs.take m).length with hi | hi
  · simp only [List.getD, List.getElem?_eq_getElem hi, Option.getD_some]
    exact h _ (List.mem_of_mem_take (List.getElem_mem hi))
  · simp [List.getD, List.getElem?_eq_none hi]
set_option maxRecDepth 100000 in
set_option maxHeartbeats 3200000 in
theorem orders_walk (a : Option Addr) (n cap : Nat) (bs : List Nat) (w : World) (hv : nats.Rd nats.U w (.slice a n cap) bs) (hw : ∀ b ∈ bs, b < 18446744073709551616) (hnil : a = none → n = 0 ∧ cap = 0) :
    Calls Try.prog 3 #[.slice a n cap] w fun e w' => e = .returned (.bool true) ∧ Below w.heap.size w w' := by
  obtain ⟨m, hm⟩ : ∃ m, m = min n 100 := ⟨_, rfl⟩
  have hm100 : m ≤ 100 := by omega
  obtain ⟨hbn, hn1, hn2⟩ := nats.rd_len hv
  unfold maxLen at hn2
  have hA2 := nats.rd_take (k := m) hv (by omega)
  have hW2 := fun i => w64_at hw m i
  obtain ⟨bs', hbs⟩ : ∃ bs', bs' = bs.take m := ⟨_, rfl⟩
  rw [← hbs] at hA2 hW2
  have HA := Lib.hid hA2
  have HW := Lib.hid hW2
  have HM := Lib.hid hm
  have HN := Lib.hid hnil
  clear hA2 hW2 hbs hw hv hm hnil hbn
  go_enter Try.func3, Try.ntmps3
  go_upto_region 1 with fail
  go_cut [12] (fun s12 wx => s12 = .bool (decide (100 < (n : Int))) ∧ wx = w)
  case first =>
    go_wp2_with fail
    go_meet
    exact ⟨rfl, rfl⟩
  case rest =>
    obtain ⟨rfl, rfl⟩ := hcut
    go_upto_if 12 with fail
    go_cut [0] (fun s0 wx => s0 = .slice a m cap ∧ wx = wc)
    case first =>
      by_cases hn : n ≤ 100
      · have c1 : decide (100 < (n : Int)) = false := by simp; omega
        have HE : Hid (n = m) := Lib.hid (by have := HM.out; omega)
        go_wp2_with fail
        go_meet
        exact ⟨by rw [HE.out], rfl⟩
      · have c1 : decide (100 < (n : Int)) = true := by simp; omega
        have HE : Hid (m = 100) := Lib.hid (by have := HM.out; omega)
        have h60 : 100 ≤ cap := by omega
        cases a with
        | none => exact absurd (HN.out rfl).1 (by omega)
        | some ad =>
          go_wp2_with fail
          go_meet
          exact ⟨by rw [HE.out], rfl⟩
    case rest =>
      obtain ⟨rfl, rfl⟩ := hcut
      obtain ⟨W, rfl⟩ : ∃ W : World, W = wc := ⟨_, rfl⟩
      have hmc : m ≤ cap := by have := HM.out; omega
      clear hn1 hn2
      go_wp2_with fail
      go_at_call 5; refine (half_new m _ hm100).mono ?_; rintro e w1 ⟨g, s, p, B, rfl, h1⟩
      have H1 := Lib.hid h1
      clear h1
      go_wp2_with fail
      go_loopw [4] (fun i wr => ∃ k : Nat, k ≤ m ∧ i = .int .i64 k ∧ Hid (Half W.heap.size B g s p m k W wr)) (fun i _ => m - (intOf i).toNat)
      case atStart => exact ⟨0, Nat.zero_le _, rfl, H1⟩
      case round =>
        clear H1
        obtain ⟨k, hk, rfl, HH⟩ := hrel
        obtain ⟨wo, rfl⟩ : ∃ wo : World, wo = wr := ⟨_, rfl⟩
        by_cases h1 : k < m
        · obtain ⟨b, off, rfl, hlt, hcs⟩ := nats.rd_cell HA.out h1
          obtain ⟨v, hvv⟩ : ∃ v, v = bs'.getD k 0 := ⟨_, rfl⟩
          have HWV := Lib.hid (HW.out k)
          rw [← hvv] at hcs HWV
          have HC : Hid (W.cell? ⟨b, off + k, none⟩ = some (.int .u64 (v : Int))) := Lib.hid hcs
          clear hcs hvv
          go_wp2_with fail
          go_at_call 6; refine (half_push W.heap.size B g s p m k W _ HH.out h1 hm100).mono ?_; rintro e w2 ⟨rfl, h2⟩
          have hc2 := (h2.bel.cell (p := ⟨b, off + k, none⟩) hlt).trans HC.out
          have H2 := Lib.hid h2
          clear h2
          go_wp2_with fail
          go_at_call 8; refine (score.Of_any _ _).mono ?_; rintro e w' ⟨rfl, rfl⟩
          rw [Int.toNat_natCast]
          go_wp2_with fail
          go_at_call 7; refine (half_set W.heap.size B g s p m (k + 1) k v W _ H2.out h1 (by omega) HWV.out hm100).mono ?_; rintro e w3 ⟨rfl, h3⟩
          have H3 := Lib.hid h3
          clear h3
          go_wp2_with fail
          go_roundw
          case rel => exact ⟨k + 1, by omega, by go_num, H3⟩
          case measure => simp [intOf]; omega
        · obtain rfl : m = k := by omega
          obtain ⟨S, hS, hl⟩ := HH.out.left
          have HS := Lib.hid hS
          have HL := Lib.hid hl
          clear hS hl HH h1 hk
          go_wp2_with fail
          go_loopw [5, 43] (fun lv c wr => ∃ (k : Nat) (lst : Int), k ≤ m ∧ c = .int .i64 k ∧ lv = .int .i64 lst ∧ (lst = -1 ∨ ∃ y : Nat, lst = (y : Int) ∧ y < m) ∧ Hid (Left W.heap.size B g s p m (m - k) S lst W wr)) (fun _ c _ => m - (intOf c).toNat)
          case atStart => exact ⟨0, -1, Nat.zero_le _, rfl, rfl, .inl rfl, HL⟩
          case round =>
            clear HL
            obtain ⟨k, lst, hk, rfl, rfl, hl, HQ⟩ := hrel
            obtain ⟨wo, rfl⟩ : ∃ wo : World, wo = wr := ⟨_, rfl⟩
            by_cases h1 : k < m
            · obtain ⟨j, hj⟩ : ∃ j, m - k = j + 1 := ⟨m - k - 1, by omega⟩
              have HJ : Hid (m - (k + 1) = j) := Lib.hid (by omega)
              have hjm : j + 1 ≤ m := by omega
              rw [hj] at HQ
              clear hj
              rcases hl with rfl | ⟨y, rfl, hy⟩
              · go_wp2_with fail
                go_at_call 9; refine (pop_step W.heap.size B g s p m j S (-1) W _ HQ.out HS.out hjm hm100).mono ?_; rintro r w2 ⟨x, rfl, hx, -, hE⟩
                have HE := Lib.hid hE
                clear hE
                have HZ : Hid (Left W.heap.size B g s p m (m - (k + 1)) S (x : Int) W w2) := Lib.hid (by rw [HJ.out]; exact HE.out)
                go_wp2_with fail
                go_roundw
                case rel => exact ⟨k + 1, x, by omega, by go_num, rfl, .inr ⟨x, rfl, hx⟩, HZ⟩
                case measure => simp [intOf]; omega
              · go_wp2_with fail
                go_at_call 9; refine (pop_step W.heap.size B g s p m j S (y : Int) W _ HQ.out HS.out hjm hm100).mono ?_; rintro r w2 ⟨x, rfl, hx, hr, hE⟩
                have HE := Lib.hid hE
                have HR := Lib.hid (hr y rfl)
                have HL1 : Hid (decide (key (S.getD y 0) < key (S.getD x 0)) = false) := Lib.hid (rank_less HS.out (by omega) HR.out)
                clear hE hr
                cases hd : decide (key (S.getD x 0) < key (S.getD y 0))
                · have HD := Lib.hid hd
                  have c5 : decide (x < y) = false := by
                    have := rank_same HS.out HR.out hd
                    simp; omega
                  clear hd
                  go_wp2_with fail
                  go_at_call 11; refine (score_step W.heap.size B g s p m j y S _ W _ HE.out hy).mono ?_; rintro r w' ⟨rfl, rfl⟩
                  go_wp2_with fail
                  go_at_call 11; refine (score_step W.heap.size B g s p m j x S _ W _ HE.out hx).mono ?_; rintro r w' ⟨rfl, rfl⟩
                  go_wp2_with fail
                  go_at_call 10; refine (score.Less_of HL1.out (HS.out y) (HS.out x) _).mono ?_; rintro r w' ⟨rfl, rfl⟩
                  go_wp2_with fail
                  go_at_call 11; refine (score_step W.heap.size B g s p m j x S _ W _ HE.out hx).mono ?_; rintro r w' ⟨rfl, rfl⟩
                  go_wp2_with fail
                  go_at_call 11; refine (score_step W.heap.size B g s p m j y S _ W _ HE.out hy).mono ?_; rintro r w' ⟨rfl, rfl⟩
                  go_wp2_with fail
                  go_at_call 10; refine (score.Less_of HD.out (HS.out x) (HS.out y) _).mono ?_; rintro r w' ⟨rfl, rfl⟩
                  have HZ : Hid (Left W.heap.size B g s p m (m - (k + 1)) S (x : Int) W w2) := Lib.hid (by rw [HJ.out]; exact HE.out)
                  go_wp2_with fail
                  go_roundw
                  case rel => exact ⟨k + 1, x, by omega, by go_num, rfl, .inr ⟨x, rfl, hx⟩, HZ⟩
                  case measure => simp [intOf]; omega
                · have HD := Lib.hid hd
                  clear hd
                  go_wp2_with fail
                  go_at_call 11; refine (score_step W.heap.size B g s p m j y S _ W _ HE.out hy).mono ?_; rintro r w' ⟨rfl, rfl⟩
                  go_wp2_with fail
                  go_at_call 11; refine (score_step W.heap.size B g s p m j x S _ W _ HE.out hx).mono ?_; rintro r w' ⟨rfl, rfl⟩
                  go_wp2_with fail
                  go_at_call 10; refine (score.Less_of HL1.out (HS.out y) (HS.out x) _).mono ?_; rintro r w' ⟨rfl, rfl⟩
                  go_wp2_with fail
                  go_at_call 11; refine (score_step W.heap.size B g s p m j x S _ W _ HE.out hx).mono ?_; rintro r w' ⟨rfl, rfl⟩
                  go_wp2_with fail
                  go_at_call 11; refine (score_step W.heap.size B g s p m j y S _ W _ HE.out hy).mono ?_; rintro r w' ⟨rfl, rfl⟩
                  go_wp2_with fail
                  go_at_call 10; refine (score.Less_of HD.out (HS.out x) (HS.out y) _).mono ?_; rintro r w' ⟨rfl, rfl⟩
                  have HZ : Hid (Left W.heap.size B g s p m (m - (k + 1)) S (x : Int) W w2) := Lib.hid (by rw [HJ.out]; exact HE.out)
                  go_wp2_with fail
                  go_roundw
                  case rel => exact ⟨k + 1, x, by omega, by go_num, rfl, .inr ⟨x, rfl, hx⟩, HZ⟩
                  case measure => simp [intOf]; omega
            · obtain rfl : m = k := by omega
              have HZ : Hid (Left W.heap.size B g s p m 0 S lst W wo) := Lib.hid (by have := HQ.out; rw [Nat.sub_self] at this; exact this)
              clear HQ h1 hk hl
              go_wp2_with fail
              go_at_call 9; refine (end_step W.heap.size B g s p m S lst W _ HZ.out).mono ?_; rintro r w' ⟨rfl, rfl⟩
              go_wp2_with fail
              go_at_call 12; refine (len_step W.heap.size B g s p m 0 S lst W _ HZ.out).mono ?_; rintro r w' ⟨rfl, rfl⟩
              go_wp2_with fail
              go_at_call 13; refine (lives_any _).mono ?_; rintro r w' ⟨rfl, hb⟩
              have HB : Hid (Below W.heap.size W w') := Lib.hid (HZ.out.bel.trans (hb.mono HZ.out.bel.size))
              clear hb
              go_wp2_with fail
              go_ret
              exact ⟨rfl, HB.out⟩
end Go.Proofs.Ytpcpjpcejcgodaa.heap
