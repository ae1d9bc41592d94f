/- The walk of the statement on how tidy a net is, over any store. -/
import Derived.Test.YtfdihlicmmcjjaaAy
namespace Go.Proofs.Ytfdihlicmmcjjaa.aig
open Go.RowKit
open Go.Proofs.Ytfdihlicmmcjjaa.mem Go.Proofs.Ytfdihlicmmcjjaa.agf

/-- the store alone -/
structure PT (J : Proj) (W wr : World) (g : Nat) (s : J.σ) (N : Net) (k : Nat) : Prop where
  rep : J.rep W.heap.size wr g s N
  bel : Below W.heap.size W wr
  len : N.length ≤ 60 * k
  tidy : Tidy N
theorem PT.on {J : Proj} {W wr wr' : World} {g : Nat} {s : J.σ} {N : Net} {k : Nat} (p : PT J W wr g s N k) (hb : Below wr.heap.size wr wr') : PT J W wr' g s N k :=
  ⟨J.keep p.rep (only_below hb) (fun _ _ e => e), p.bel.trans (hb.mono p.bel.size), p.len, p.tidy⟩
theorem PT.skip {J : Proj} {W wr : World} {g : Nat} {s : J.σ} {N : Net} {k : Nat} (p : PT J W wr g s N k) : PT J W wr g s N (k + 1) := ⟨p.rep, p.bel, by have := p.len; omega, p.tidy⟩
theorem pt_two {J : Proj} {W w1 : World} {g : Nat} {s : J.σ} {N : Net} {k : Nat} (t : TypeId) (p : PT J W w1 g s N k) :
    Two J W.heap.size (w1.alloc (.cells #[.slice none 0 0] t)) g s N w1.heap.size (.slice none 0 0) [] ∧ Below W.heap.size W (w1.alloc (.cells #[.slice none 0 0] t)) := by
  have hA := p.bel.size
  refine ⟨⟨J.keep p.rep (only_below ((Below.refl _ w1).alloc (Nat.le_refl _) _)) (fun _ _ e => e), ⟨w1.heap.size + 1, one_new _ _ _, ⟨rfl, .inl ⟨rfl, rfl⟩⟩, by omega, by omega, by simp⟩, fun k hk e => ?_⟩, p.bel.alloc hA _⟩
  have := (J.ge p.rep k hk).2
  rcases e with e | e
  · omega
  · simp [Value.ownBlock] at e
theorem pt_step {J : Proj} {W w1 w2 : World} {g h : Nat} {s s2 : J.σ} {sv2 : Value} {N M : Net} {k : Nat} {d : AskD} (p : PT J W w1 g s N k) (hw : Below W.heap.size W w2) (t : Two J W.heap.size w2 g s2 (stepF N d) h sv2 M)
    (hl : d.l.length ≤ 60) (hn : d.n.length ≤ 60) : PT J W w2 g s2 (stepF N d) (k + 1) :=
  ⟨t.pr, hw, by have := stepF_len N d hl hn; have := p.len; omega, stepF_kept kept_tidy d p.tidy⟩
/-- a row of the store's net -/
theorem tidy_row {N : Net} {ms : List (Int × Int)} (hs : ∀ i, i < N.length → SameN (ms.getD i (0, 0)) ((N.map conc).getD i (0, 0))) (ht : Tidy N) {k : Nat} (hk : k < N.length) :
    (ms.getD k (0, 0)).1 < 0 ∨ ∃ a b : Nat, ms.getD k (0, 0) = ((a : Int), (b : Int)) ∧ N[k]? = some (some (a, b)) ∧ 2 ≤ a ∧ a / 2 < b / 2 ∧ b ≤ 2 * k + 1 := by
  rcases hs k hk with ⟨e, -⟩ | e
  · exact .inl e
  · have hx : N[k]? = some N[k] := List.getElem?_eq_getElem hk
    have e2 : (N.map conc).getD k (0, 0) = conc N[k] := by simp [List.getD, hk]
    rw [e2] at e
    cases hn : N[k] with
    | none => rw [hn] at e; left; rw [e]; decide
    | some q =>
      obtain ⟨a, b⟩ := q
      rw [hn] at hx e
      exact .inr ⟨a, b, e, hx, (ht.lo k a b hx).1, (ht.lo k a b hx).2, (ht.good k a b hx).2⟩
theorem tidy_apart {N : Net} {ms : List (Int × Int)} (hs : ∀ i, i < N.length → SameN (ms.getD i (0, 0)) ((N.map conc).getD i (0, 0))) (ht : Tidy N) {j k a b : Nat} (hj : j < k) (hk : k < N.length) (hx : N[k]? = some (some (a, b))) :
    ((ms.getD j (0, 0)).1 == (a : Int) && (ms.getD j (0, 0)).2 == (b : Int)) = false := by
  rcases tidy_row hs ht (k := j) (by omega) with e | ⟨a2, b2, e, hx2, -⟩
  · have : ((ms.getD j (0, 0)).1 == (a : Int)) = false := by simp only [beq_eq_false_iff_ne]; omega
    rw [this]; rfl
  · rw [e]
    by_cases h1 : a2 = a
    · by_cases h2 : b2 = b
      · subst h1; subst h2
        have := ht.once j k a2 b2 hx2 hx
        omega
      · have : ((b2 : Int) == (b : Int)) = false := by simp only [beq_eq_false_iff_ne]; omega
        simp only [this, Bool.and_false]
    · have : ((a2 : Int) == (a : Int)) = false := by simp only [beq_eq_false_iff_ne]; omega
      simp only [this, Bool.false_and]
theorem node_eql (a b c d : Int) (w : World) : (binOp .eql 54 (.agg #[.int .i64 a, .int .i64 b]) (.agg #[.int .i64 c, .int .i64 d])).run Try.prog w = .ok (.bool (a == c && b == d)) w := by
  have u3 := Try.underlying3
  have a3 := Try.isAgg3
  have z3 := Try.sizeOf3
  have hS : Try.prog.underlying 54 = some (.struct (Try.prog.fieldsOf 54)) := by kernel_rfl
  have hp : Try.prog.stoodInHeld 54 = false := by kernel_rfl
  rw [run_eql_struct, show (10000 : Nat) = 9999 + 1 from rfl, run_equalIn_agg w 9999 54 _ _ hS hp]
  simp only [Program.fieldsOf, Try.underlying54]
  go_simp
  by_cases h1 : a = c <;> by_cases h2 : b = d <;> simp [h1, h2]
set_option maxRecDepth 100000 in
set_option maxHeartbeats 6400000 in
theorem tidy_any (J : Proj) (C : ChecksOk) (a : Option Addr) (n cap : Nat) (D : Nat → AskD) (W : World) (hD : Asks W a n cap D) (hnil : a = none → n = 0 ∧ cap = 0) :
    Calls Try.prog 6 #[.slice a n cap] W fun e w' => e = .returned (.bool true) ∧ Below W.heap.size W w' := by
  obtain ⟨h1, h2, h3⟩ := hD
  unfold maxLen at h2
  have HC := Lib.hid h3
  have HNIL := Lib.hid hnil
  clear h3 hnil
  go_enter Try.func6, Try.ntmps6
  go_upto_if 10 with fail
  go_cut [0] (fun s0 wx => ∃ m : Nat, m ≤ 60 ∧ m ≤ n ∧ s0 = .slice a m cap ∧ W = wx)
  case first =>
    by_cases h6 : 60 < n
    · have c1 : decide (60 < n) = true := by simp; omega
      go_wp2_with fail
      go_meet
      exact ⟨60, by omega, by omega, rfl, rfl⟩
    · have c1 : decide (60 < n) = false := by simp; omega
      go_wp2_with fail
      go_meet
      exact ⟨n, by omega, by omega, rfl, rfl⟩
  case rest =>
    obtain ⟨m, hm60, hmn, rfl, rfl⟩ := hcut
    have HC2 : Hid (0 < m → ∃ b off, a = some ⟨b, off, none⟩ ∧ b < W.heap.size ∧ ∀ i, i < m → ∃ lv nv, AskAt W b (off + i * 6) (D i) lv nv) := Lib.hid (fun hp => by
      obtain ⟨b, off, e1, e2, e3⟩ := HC.out (by omega)
      exact ⟨b, off, e1, e2, fun i hi => e3 i (by omega)⟩)
    clear HC
    go_wp2_with fail
    go_at_call 17; refine (J.new W.heap.size W (Nat.le_refl _)).mono ?_; rintro e w1 ⟨g, s, rfl, p1, -, b1⟩
    have HS : Hid (∃ s N, PT J W w1 g s N 0) := Lib.hid ⟨s, [], p1, b1, by simp, tidy_nil⟩
    clear p1 b1
    go_wp2_with fail
    go_loopw [4] (fun i wr => ∃ k : Nat, k ≤ m ∧ i = .int .i64 k ∧ Hid (∃ s N, PT J W wr g s N k)) (fun i _ => m - (intOf i).toNat)
    case atStart => exact ⟨0, Nat.zero_le _, rfl, HS⟩
    case round =>
      clear HS
      obtain ⟨k, hk, rfl, HP⟩ := hrel
      obtain ⟨wo, rfl⟩ : ∃ wo : World, wo = wr := ⟨_, rfl⟩
      by_cases h1 : k < m
      · obtain ⟨b, off, rfl, hlt, hcs⟩ := HC2.out (by omega)
        obtain ⟨lv, nv, hat⟩ := hcs k h1
        obtain ⟨la, lc, hlv, hl1, hl2, -⟩ := hat.hl
        obtain ⟨na, nc, hnv, hn1, hn2, -⟩ := hat.hn
        obtain rfl : lv = _ := hlv
        obtain rfl : nv = _ := hnv
        have HB : Hid (Below W.heap.size W wo) := Lib.hid (by obtain ⟨_, _, q⟩ := HP.out; exact q.bel)
        have e0 := (HB.out.cell (p := ⟨b, off + k * 6, none⟩) hlt).trans hat.c0
        have e1 := (HB.out.cell (p := ⟨b, off + k * 6 + 1, none⟩) hlt).trans hat.c1
        have e2 := (HB.out.cell (p := ⟨b, off + k * 6 + 2, none⟩) hlt).trans hat.c2
        have e3 := (HB.out.cell (p := ⟨b, off + k * 6 + 3, none⟩) hlt).trans hat.c3
        have e4 := (HB.out.cell (p := ⟨b, off + k * 6 + 4, none⟩) hlt).trans hat.c4
        have e5 := (HB.out.cell (p := ⟨b, off + k * 6 + 5, none⟩) hlt).trans hat.c5
        have HAT := Lib.hid hat
        obtain ⟨d, hd⟩ : ∃ d, d = D k := ⟨_, rfl⟩
        rw [← hd] at e0 e1 e2 e3 e4 e5 HAT hl1 hn1
        obtain ⟨lq, hlq⟩ : ∃ lq, lq = d.l.length := ⟨_, rfl⟩
        obtain ⟨nq, hnq⟩ : ∃ nq, nq = d.n.length := ⟨_, rfl⟩
        rw [← hlq] at e4 hl1 HAT
        rw [← hnq] at e5 hn1 HAT
        have HLQ := Lib.hid hlq
        have HNQ := Lib.hid hnq
        have HSK : Hid (∃ s N, PT J W wo g s N (k + 1)) := Lib.hid (by obtain ⟨s, N, q⟩ := HP.out; exact ⟨s, N, q.skip⟩)
        have HKN : Hid (KNds (fun _ => False) wo (.slice na nq nc) d.n) := Lib.hid (knds_any HAT.out.hn HB.out)
        clear hcs hat hd hlq hnq
        by_cases g1 : lq ≤ 60
        · have c1 : decide ((lq : Int) ≤ 60) = true := by simp; omega
          have HL6 : Hid (d.l.length ≤ 60) := Lib.hid (by rw [← HLQ.out]; omega)
          clear g1
          go_wp2_with fail
          go_at_call 18; refine (Small_any _ _ d.n _ HKN.out).mono ?_; rintro e w3 ⟨rfl, rfl⟩
          by_cases g2 : (decide (d.n.length ≤ 60) && okB d.n) = true
          · rw [g2]
            have HN6 : Hid (d.n.length ≤ 60 ∧ GoodN d.n) := Lib.hid (by
              rw [Bool.and_eq_true] at g2
              exact ⟨by simpa using g2.1, okB_good g2.2⟩)
            clear g2 HSK
            obtain ⟨s, N, p⟩ := HP.out
            have HP1 := Lib.hid p
            have HT := Lib.hid (pt_two 37 p)
            have hbo : b < wo.heap.size := Nat.lt_of_lt_of_le hlt HB.out.size
            clear p HP
            go_wp2_with fail
            go_at_call 21; refine (step_any J g s N _ (.slice none 0 0) [] d _ _ W _ HT.out.1 HT.out.2 (by have := HP1.out.len; omega) (by simp) HAT.out.ha HAT.out.hb HAT.out.hc HAT.out.hl HAT.out.sl HL6.out HAT.out.hn HAT.out.sn HN6.out.1 HN6.out.2).mono ?_; rintro e w5 ⟨s2, sv2, rfl, t2, b2⟩
            have HE : Hid (∃ s N, PT J W w5 g s N (k + 1)) := Lib.hid ⟨_, _, pt_step HP1.out (HT.out.2.trans b2) t2 HL6.out HN6.out.1⟩
            clear t2 b2
            generalize stepB N [] d = bb
            go_wp2_with fail
            go_roundw
            case rel => exact ⟨k + 1, by omega, by go_num, HE⟩
            case measure => simp [intOf]; omega
          · rw [Bool.not_eq_true] at g2
            rw [g2]
            clear g2
            go_wp2_with fail
            go_roundw
            case rel => exact ⟨k + 1, by omega, by go_num, HSK⟩
            case measure => simp [intOf]; omega
        · have c1 : decide ((lq : Int) ≤ 60) = false := by simp; omega
          clear g1
          go_wp2_with fail
          go_roundw
          case rel => exact ⟨k + 1, by omega, by go_num, HSK⟩
          case measure => simp [intOf]; omega
      · obtain rfl : m = k := by omega
        clear h1 hk
        go_wp2_with fail
        go_at_call 23
        obtain ⟨s, N, p⟩ := HP.out
        have HN : Hid (N.length ≤ 3600) := Lib.hid (by have := p.len; omega)
        have HP1 := Lib.hid p
        clear p HP
        refine (J.net _ g s N _ HP1.out.rep (by have := HN.out; omega)).mono ?_; rintro e w5 ⟨u, ms, rfl, kn, kl, ks, b5⟩
        have HQ := Lib.hid (HP1.out.on b5)
        have HCK := Lib.hid (same_chk kl ks HP1.out.tidy.good)
        have HKN := Lib.hid kn
        have HKS := Lib.hid ks
        have HKL := Lib.hid kl
        obtain ⟨ua, uc, hu, hu1, hu2, -⟩ := kn
        rw [kl] at hu hu1
        obtain rfl : u = _ := hu
        have HROW := Lib.hid (fun i hi => tidy_row ks HP1.out.tidy (k := i) hi)
        have HAP := Lib.hid (fun i j a b hj hi hx => tidy_apart ks HP1.out.tidy (k := i) (j := j) (a := a) (b := b) hj hi hx)
        clear kl ks b5
        go_wp2_with fail
        go_at_call 8; refine (C _ _ ms _ HKN.out (by rw [HKL.out]; have := HN.out; omega)).mono ?_; rintro e w8 ⟨he, b8⟩
        rw [HCK.out] at he
        subst he
        have H8 := Lib.hid (HQ.out.on b8)
        have HK8 := Lib.hid (knds_any HKN.out b8)
        clear b8
        go_wp2_with fail
        go_at_call 22; refine (J.len _ g s N _ H8.out.rep).mono ?_; rintro e w9 ⟨rfl, rfl⟩
        obtain ⟨nn, hnn⟩ : ∃ nn, nn = N.length := ⟨_, rfl⟩
        rw [← hnn] at HKN HK8 HROW HAP HN hu1 ⊢
        unfold maxLen at hu2
        clear hnn
        go_wp2_with fail
        go_loopw [6] (fun i wr => ∃ k : Nat, k ≤ nn ∧ i = .int .i64 k ∧ Hid (∃ q, wr = w8.drewN q)) (fun i _ => nn - (intOf i).toNat)
        case atStart => exact ⟨0, Nat.zero_le _, rfl, Lib.hid ⟨0, rfl⟩⟩
        case round =>
          obtain ⟨k, hk, rfl, HD⟩ := hrel
          obtain ⟨wo, rfl⟩ : ∃ wo : World, wo = wr := ⟨_, rfl⟩
          have HKO : Hid (KNds (fun _ => False) wo (.slice ua nn uc) ms) := Lib.hid (by
            obtain ⟨q, e⟩ := HD.out; rw [e]; exact knds_any HK8.out (below_drewN (Below.refl _ _) q))
          by_cases hlt : k < nn
          · obtain ⟨b, off, rfl, hbl, e1, e2⟩ := HKO.out.at_ hlt
            rcases HROW.out k hlt with hneg | ⟨a', b', hpq, hx, hlo, hlt2, hbd⟩
            · obtain ⟨p, hp⟩ : ∃ p, p = (ms.getD k (0, 0)).1 := ⟨_, rfl⟩
              rw [← hp] at e1 hneg
              have c1 : decide (p < 0) = true := by simpa using hneg
              clear hp hneg e2
              go_wp2_with fail
              go_roundw
              case rel => exact ⟨k + 1, by omega, by go_num, HD⟩
              case measure => simp [intOf]; omega
            · rw [hpq] at e1 e2
              simp only at e1 e2
              have c1 : decide ((a' : Int) < 0) = false := by simp
              have c2 : decide ((a' : Int) < 2) = false := by simp; omega
              have HX := Lib.hid (fun j hj => HAP.out k j a' b' hj hlt hx)
              have hn36 : nn ≤ 3600 := HN.out
              have c3 : decide (wrap64 ((b' : Int) / 2) ≤ wrap64 ((a' : Int) / 2)) = false := by unfold wrap64; simp; omega
              have HPQ := Lib.hid hpq
              clear hpq hx hn36
              go_upto_region 18 with fail
              go_quiet (fail)
              go_wp2_with fail
              have HD2 : Hid (∃ q, wo.drewN nq = w8.drewN q) := Lib.hid (by obtain ⟨q, e⟩ := HD.out; exact ⟨q + nq, by rw [e, World.drewN_drewN]⟩)
              obtain ⟨w11, hw11⟩ : ∃ w11, w11 = wo.drewN nq := ⟨_, rfl⟩
              rw [← hw11] at HD2 ⊢
              clear hw11 e1 e2 hbl
              go_loopw [7] (fun j wr => ∃ i2 : Nat, i2 ≤ k ∧ j = .int .i64 i2 ∧ Hid (∃ q, wr = w8.drewN q)) (fun j _ => k - (intOf j).toNat)
              case atStart => exact ⟨0, Nat.zero_le _, rfl, HD2⟩
              case round =>
                clear HD2
                obtain ⟨i2, hi2, rfl, HD3⟩ := hrel
                obtain ⟨w12, rfl⟩ : ∃ w12 : World, w12 = wr := ⟨_, rfl⟩
                by_cases hj : i2 < k
                · have HK12 : Hid (KNds (fun _ => False) w12 (.slice (some ⟨b, off, none⟩) nn uc) ms) := Lib.hid (by
                    obtain ⟨q, e⟩ := HD3.out; rw [e]; exact knds_any HK8.out (below_drewN (Below.refl _ _) q))
                  obtain ⟨b2, off2, hb2, hbl2, d1, d2⟩ := HK12.out.at_ (i := i2) (by omega)
                  obtain ⟨rfl, rfl⟩ : b = b2 ∧ off = off2 := by simpa using hb2
                  obtain ⟨b3, off3, hb3, hbl3, d3, d4⟩ := HK12.out.at_ (i := k) hlt
                  obtain ⟨rfl, rfl⟩ : b = b3 ∧ off = off3 := by simpa using hb3
                  have hxx := HX.out i2 hj
                  obtain ⟨p2, hp2⟩ : ∃ p2, p2 = (ms.getD i2 (0, 0)).1 := ⟨_, rfl⟩
                  obtain ⟨q2, hq2⟩ : ∃ q2, q2 = (ms.getD i2 (0, 0)).2 := ⟨_, rfl⟩
                  rw [← hp2] at d1 hxx
                  rw [← hq2] at d2 hxx
                  rw [HPQ.out] at d3 d4
                  simp only at d3 d4
                  have hne : ∀ w : World, (binOp .eql 54 (.agg #[.int .i64 p2, .int .i64 q2]) (.agg #[.int .i64 (a' : Int), .int .i64 (b' : Int)])).run Try.prog w = .ok (.bool false) w := fun w => by rw [node_eql, hxx]
                  clear hp2 hq2 hxx hb2 hb3
                  go_upto_region 23 with fail
                  go_quiet (fail)
                  go_wp2_with fail
                  go_roundw
                  case rel => exact ⟨i2 + 1, by omega, by go_num, Lib.hid (by obtain ⟨q, e⟩ := HD3.out; exact ⟨q + nq, by rw [e, World.drewN_drewN]⟩)⟩
                  case measure => simp [intOf]; omega
                · obtain rfl : k = i2 := by omega
                  clear hj hi2
                  go_wp2_with fail
                  go_roundw
                  case rel => exact ⟨k + 1, by omega, by go_num, HD3⟩
                  case measure => simp [intOf]; omega
          · obtain rfl : nn = k := by omega
            have H9 : Hid (∃ s N, PT J W wo g s N m) := Lib.hid (by obtain ⟨q, e⟩ := HD.out; rw [e]; exact ⟨_, _, H8.out.on (below_drewN (Below.refl _ _) q)⟩)
            clear hlt hk
            go_wp2_with fail
            go_at_call 16; refine (lives_any J _).mono ?_; rintro e w10 ⟨rfl, b10⟩
            have HE : Hid (Below W.heap.size W w10) := Lib.hid (by obtain ⟨s, N, q⟩ := H9.out; exact (q.on b10).bel)
            clear b10
            go_wp2_with fail
            go_ret
            exact ⟨rfl, HE.out⟩
end Go.Proofs.Ytfdihlicmmcjjaa.aig
