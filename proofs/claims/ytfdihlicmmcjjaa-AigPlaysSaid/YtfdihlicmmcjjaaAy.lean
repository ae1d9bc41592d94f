/- The walk of the statement on what a store tells, over any store. -/
import Derived.Test.YtfdihlicmmcjjaaAx
namespace Go.Proofs.Ytfdihlicmmcjjaa.aig
open Go.RowKit
open Go.Proofs.Ytfdihlicmmcjjaa.mem Go.Proofs.Ytfdihlicmmcjjaa.agf

/-- both stores hold the same net -/
structure PL (J : Proj) (W wr : World) (g : Nat) (s : J.σ) (h : Nat) (sv : Value) (N : Net) (k : Nat) : Prop where
  two : Two J W.heap.size wr g s N h sv N
  bel : Below W.heap.size W wr
  len : N.length ≤ 60 * k
  tidy : Tidy N
theorem pl_start (J : Proj) {W w1 : World} {g : Nat} {s : J.σ} (t : TypeId) (p : J.rep W.heap.size w1 g s []) (hb : Below W.heap.size W w1) : PL J W (w1.alloc (.cells #[.slice none 0 0] t)) g s w1.heap.size (.slice none 0 0) [] 0 := by
  have hA := hb.size
  refine ⟨⟨J.keep p (only_below ((Below.refl _ w1).alloc (Nat.le_refl _) _)) (fun _ _ e => e), ⟨w1.heap.size + 1, one_new _ _ _, ⟨rfl, .inl ⟨rfl, rfl⟩⟩, by omega, by omega, by simp⟩, fun k hk e => ?_⟩, hb.alloc hA _, by simp, tidy_nil⟩
  have := (J.ge p k hk).2
  rcases e with e | e
  · omega
  · simp [Value.ownBlock] at e
/-- a pass that asks nothing -/
theorem PL.skip {J : Proj} {W wr wr' : World} {g : Nat} {s : J.σ} {h : Nat} {sv : Value} {N : Net} {k : Nat} (p : PL J W wr g s h sv N k) (hb : Below wr.heap.size wr wr') : PL J W wr' g s h sv N (k + 1) :=
  ⟨p.two.on hb, p.bel.trans (hb.mono p.bel.size), by have := p.len; omega, p.tidy⟩
theorem PL.on {J : Proj} {W wr wr' : World} {g : Nat} {s : J.σ} {h : Nat} {sv : Value} {N : Net} {k : Nat} (p : PL J W wr g s h sv N k) (hb : Below wr.heap.size wr wr') : PL J W wr' g s h sv N k :=
  ⟨p.two.on hb, p.bel.trans (hb.mono p.bel.size), p.len, p.tidy⟩
/-- the six cells of what is asked, in a block of its own, apart from both stores -/
structure Six (J : Proj) (w : World) (X : Nat) (g : Nat) (s : J.σ) (h : Nat) (sv : Value) (d : AskD) (lv nv : Value) : Prop where
  c0 : w.cell? ⟨X, 0, none⟩ = some (.int .i64 d.kd)
  c1 : w.cell? ⟨X, 1, none⟩ = some (.int .i64 d.a)
  c2 : w.cell? ⟨X, 2, none⟩ = some (.int .i64 d.b)
  c3 : w.cell? ⟨X, 3, none⟩ = some (.int .i64 d.c)
  c4 : w.cell? ⟨X, 4, none⟩ = some lv
  c5 : w.cell? ⟨X, 5, none⟩ = some nv
  lt : X < w.heap.size
  n1 : ¬ J.own g s X
  n2 : ¬ ROwn h sv X
theorem six_new {J : Proj} {W wo : World} {g : Nat} {s : J.σ} {h : Nat} {sv : Value} {N : Net} {k : Nat} (p : PL J W wo g s h sv N k) (d : AskD) (lv nv : Value) (t : TypeId) :
    Six J (wo.alloc (.cells #[.int .i64 d.kd, .int .i64 d.a, .int .i64 d.b, .int .i64 d.c, lv, nv] t)) wo.heap.size g s h sv d lv nv := by
  refine ⟨by simp, by simp, by simp, by simp, by simp, by simp, by simp, fun e => ?_, fun e => ?_⟩
  · have := (J.ge p.two.pr _ e).2; omega
  · obtain ⟨B, hr⟩ := p.two.rf
    have := (hr.ge _ e).2; omega
/-- a clone takes the place of the store, which goes its own way -/
theorem pl_clone {J : Proj} {W w1 w2 w3 : World} {g g2 h X : Nat} {s s2 s3 : J.σ} {sv : Value} {N : Net} {k : Nat} {d : AskD} {lv nv : Value} (p : PL J W w1 g s h sv N k) (x : Six J w1 X g s h sv d lv nv)
    (q2 : J.rep W.heap.size w2 g2 s2 N) (o2 : ∀ k, J.own g2 s2 k → w1.heap.size ≤ k) (b2 : Below w1.heap.size w1 w2) (m3 : Moved (J.own g s) (J.own g s3) w2 w3) :
    PL J W w3 g2 s2 h sv N k ∧ Six J w3 X g2 s2 h sv d lv nv := by
  obtain ⟨B, hr⟩ := p.two.rf
  have old : ∀ k, J.own g s k → k < w1.heap.size := fun k hk => (J.ge p.two.pr k hk).2
  have ref : ∀ k, ROwn h sv k → k < w1.heap.size := fun k hk => (hr.ge k hk).2
  have lt2 := Nat.lt_of_lt_of_le x.lt b2.size
  have ce : ∀ i, w3.cell? ⟨X, i, none⟩ = w1.cell? ⟨X, i, none⟩ := fun i => (m3.cell lt2 x.n1 i).trans (b2.cell (p := ⟨X, i, none⟩) x.lt)
  have b23 : Below W.heap.size W w3 := (p.bel.trans (b2.mono p.bel.size)).trans (m3.below (fun k hk => (J.ge p.two.pr k hk).1) (Nat.le_trans p.bel.size b2.size))
  refine ⟨⟨⟨J.keep q2 m3.only (fun k hk e => ?_), ⟨B, (hr.on b2).only m3.only (fun k hk e => p.two.ap k e hk)⟩, fun k hk e => ?_⟩, b23, p.len, p.tidy⟩, ?_⟩
  · have := o2 k hk; have := old k e; omega
  · have := o2 k hk; have := ref k e; omega
  · exact ⟨(ce 0).trans x.c0, (ce 1).trans x.c1, (ce 2).trans x.c2, (ce 3).trans x.c3, (ce 4).trans x.c4, (ce 5).trans x.c5, Nat.lt_of_lt_of_le lt2 m3.only.size, fun e => by have := o2 X e; have := x.lt; omega, x.n2⟩
/-- a step is done -/
theorem pl_step {J : Proj} {W w1 w2 : World} {g h : Nat} {s s2 : J.σ} {sv sv2 : Value} {N : Net} {k : Nat} {d : AskD} (p : PL J W w1 g s h sv N k) (t : Two J W.heap.size w2 g s2 (stepF N d) h sv2 (stepF N d)) (b : Below W.heap.size w1 w2)
    (hl : d.l.length ≤ 60) (hn : d.n.length ≤ 60) : PL J W w2 g s2 h sv2 (stepF N d) (k + 1) :=
  ⟨t, p.bel.trans b, by have := stepF_len N d hl hn; have := p.len; omega, stepF_kept kept_tidy d p.tidy⟩
/-- what a net of the store's is told to be -/
def ChecksOk : Prop := ∀ (P : Nat → Prop) (v : Value) (ns : List (Int × Int)) (w : World), KNds P w v ns → ns.length ≤ 1000000 →
  Calls Try.prog 8 #[v] w fun e w' => e = .returned (.int .i64 (chk ns)) ∧ Below w.heap.size w w'
theorem same_okB {N : Net} {ms : List (Int × Int)} (hl : ms.length = N.length) (hs : ∀ i, i < N.length → SameN (ms.getD i (0, 0)) ((N.map conc).getD i (0, 0))) (hg : agf.Good N) : okB ms = true := by
  refine okB_yes (fun i hi => ?_)
  unfold okAt
  rw [hl] at hi
  rcases hs i hi with ⟨e, -⟩ | e
  · rw [decide_eq_true e]; rfl
  · rw [e]
    have hx : N[i]? = some N[i] := List.getElem?_eq_getElem hi
    have e2 : (N.map conc).getD i (0, 0) = conc N[i] := by simp [List.getD, hi]
    rw [e2]
    cases hn : N[i] with
    | none => rfl
    | some q =>
      obtain ⟨a, b⟩ := q
      rw [hn] at hx
      have := hg i a b hx
      show (decide ((a : Int) < 0) || (decide ((a : Int) ≤ 2 * (i : Int) + 1) && decide (0 ≤ (b : Int)) && decide ((b : Int) ≤ 2 * (i : Int) + 1))) = true
      rw [decide_eq_true (show (a : Int) ≤ 2 * (i : Int) + 1 by omega), decide_eq_true (show 0 ≤ (b : Int) by omega), decide_eq_true (show (b : Int) ≤ 2 * (i : Int) + 1 by omega)]
      simp
theorem same_chk {N : Net} {ms : List (Int × Int)} (hl : ms.length = N.length) (hs : ∀ i, i < N.length → SameN (ms.getD i (0, 0)) ((N.map conc).getD i (0, 0))) (hg : agf.Good N) : chk ms = 0 := by
  unfold chk; rw [same_okB hl hs hg]; rfl
theorem rs_knds {A B : Nat} {w : World} {h : Nat} {sv : Value} {N : Net} (s : Rs A B w h sv N) : KNds (fun _ => False) w sv (N.map conc) :=
  knds_row (E := B) (by rw [List.length_map]; exact s.row) (fun _ e => e.elim)
set_option maxRecDepth 100000 in
set_option maxHeartbeats 6400000 in
theorem plays_any (J : Proj) (C : ChecksOk) (a : Option Addr) (n cap : Nat) (D : Nat → AskD) (W : World) (hD : Asks W a n cap D) (hnil : a = none → n = 0 ∧ cap = 0) :
    Calls Try.prog 4 #[.slice a n cap] W fun e w' => e = .returned (.bool true) ∧ Below W.heap.size W w' := by
  obtain ⟨h1, h2, h3⟩ := hD
  unfold maxLen at h2
  have HC := Lib.hid h3
  have HNIL := Lib.hid hnil
  clear h3 hnil
  go_enter Try.func4, Try.ntmps4
  go_upto_if 10 with fail
  go_cut [0] (fun s0 wx => ∃ m : Nat, m ≤ 60 ∧ m ≤ n ∧ s0 = .slice a m cap ∧ W = wx)
  case first =>
    by_cases h6 : 60 < n
    · have c1 : decide (60 < n) = true := by simp; omega
      go_wp2_with fail
      go_meet
      exact ⟨60, by omega, by omega, rfl, rfl⟩
    · have c1 : decide (60 < n) = false := by simp; omega
      go_wp2_with fail
      go_meet
      exact ⟨n, by omega, by omega, rfl, rfl⟩
  case rest =>
    obtain ⟨m, hm60, hmn, rfl, rfl⟩ := hcut
    have HC2 : Hid (0 < m → ∃ b off, a = some ⟨b, off, none⟩ ∧ b < W.heap.size ∧ ∀ i, i < m → ∃ lv nv, AskAt W b (off + i * 6) (D i) lv nv) := Lib.hid (fun hp => by
      obtain ⟨b, off, e1, e2, e3⟩ := HC.out (by omega)
      exact ⟨b, off, e1, e2, fun i hi => e3 i (by omega)⟩)
    clear HC
    go_wp2_with fail
    go_at_call 17; refine (J.new W.heap.size W (Nat.le_refl _)).mono ?_; rintro e w1 ⟨g, s, rfl, p1, -, b1⟩
    have HP := Lib.hid (pl_start J 37 p1 b1)
    clear p1 b1
    go_wp2_with fail
    obtain ⟨h, hh⟩ : ∃ h, h = w1.heap.size := ⟨_, rfl⟩
    rw [← hh] at HP ⊢
    clear hh
    go_at_call 16; refine (lives_any J _).mono ?_; rintro e w2 ⟨rfl, b2⟩
    have HS : Hid (∃ s sv N, PL J W w2 g s h sv N 0) := Lib.hid ⟨_, _, _, HP.out.on b2⟩
    clear HP b2
    go_wp2_with fail
    go_loopw [3, 5] (fun r i wr => ∃ (k g : Nat), k ≤ m ∧ i = .int .i64 k ∧ r = .pointer (some ⟨g, 0, none⟩) ∧ Hid (∃ s sv N, PL J W wr g s h sv N k)) (fun _ i _ => m - (intOf i).toNat)
    case atStart => exact ⟨0, g, Nat.zero_le _, rfl, rfl, HS⟩
    case round =>
      clear HS
      obtain ⟨k, g, hk, rfl, rfl, HP⟩ := hrel
      obtain ⟨wo, rfl⟩ : ∃ wo : World, wo = wr := ⟨_, rfl⟩
      by_cases h1 : k < m
      · obtain ⟨b, off, rfl, hlt, hcs⟩ := HC2.out (by omega)
        obtain ⟨lv, nv, hat⟩ := hcs k h1
        obtain ⟨la, lc, hlv, hl1, hl2, -⟩ := hat.hl
        obtain ⟨na, nc, hnv, hn1, hn2, -⟩ := hat.hn
        obtain rfl : lv = _ := hlv
        obtain rfl : nv = _ := hnv
        have HB : Hid (Below W.heap.size W wo) := Lib.hid (by obtain ⟨_, _, _, q⟩ := HP.out; exact q.bel)
        have e0 := (HB.out.cell (p := ⟨b, off + k * 6, none⟩) hlt).trans hat.c0
        have e1 := (HB.out.cell (p := ⟨b, off + k * 6 + 1, none⟩) hlt).trans hat.c1
        have e2 := (HB.out.cell (p := ⟨b, off + k * 6 + 2, none⟩) hlt).trans hat.c2
        have e3 := (HB.out.cell (p := ⟨b, off + k * 6 + 3, none⟩) hlt).trans hat.c3
        have e4 := (HB.out.cell (p := ⟨b, off + k * 6 + 4, none⟩) hlt).trans hat.c4
        have e5 := (HB.out.cell (p := ⟨b, off + k * 6 + 5, none⟩) hlt).trans hat.c5
        have HAT := Lib.hid hat
        obtain ⟨d, hd⟩ : ∃ d, d = D k := ⟨_, rfl⟩
        rw [← hd] at e0 e1 e2 e3 e4 e5 HAT hl1 hn1
        obtain ⟨lq, hlq⟩ : ∃ lq, lq = d.l.length := ⟨_, rfl⟩
        obtain ⟨nq, hnq⟩ : ∃ nq, nq = d.n.length := ⟨_, rfl⟩
        rw [← hlq] at e4 hl1 HAT
        rw [← hnq] at e5 hn1 HAT
        have HLQ := Lib.hid hlq
        have HNQ := Lib.hid hnq
        clear hcs hat hd hlq hnq
        go_upto_region 10 with fail
        obtain ⟨X, hX⟩ : ∃ X, X = wo.heap.size := ⟨_, rfl⟩
        obtain ⟨W1, hW1⟩ : ∃ W1, W1 = wo.alloc (.cells #[.int .i64 d.kd, .int .i64 d.a, .int .i64 d.b, .int .i64 d.c, .slice la lq lc, .slice na nq nc] 39) := ⟨_, rfl⟩
        have HP1 : Hid (∃ s sv N, PL J W W1 g s h sv N k ∧ Six J W1 X g s h sv d (.slice la lq lc) (.slice na nq nc)) := Lib.hid (by
          obtain ⟨s, sv, N, q⟩ := HP.out
          rw [hX, hW1]
          exact ⟨s, sv, N, q.on ((Below.refl _ _).alloc (Nat.le_refl _) _), six_new q d _ _ _⟩)
        rw [← hX, ← hW1]
        clear hX hW1 HP HB e0 e1 e2 e3 e4 e5
        obtain ⟨f0, f4, f5⟩ : W1.cell? ⟨X, 0, none⟩ = some (.int .i64 d.kd) ∧ W1.cell? ⟨X, 4, none⟩ = some (.slice la lq lc) ∧ W1.cell? ⟨X, 5, none⟩ = some (.slice na nq nc) := by
          obtain ⟨_, _, _, _, x⟩ := HP1.out; exact ⟨x.c0, x.c4, x.c5⟩
        have HSK : Hid (∃ s sv N, PL J W W1 g s h sv N (k + 1)) := Lib.hid (by obtain ⟨s, sv, N, q, -⟩ := HP1.out; exact ⟨s, sv, N, q.skip (Below.refl _ _)⟩)
        have HKN : Hid (KNds (fun _ => False) W1 (.slice na nq nc) d.n) := Lib.hid (by obtain ⟨s, sv, N, q, -⟩ := HP1.out; exact knds_any HAT.out.hn q.bel)
        by_cases g1 : 60 < lq
        · have c1 : decide (60 < (lq : Int)) = true := by simp; omega
          clear g1
          go_wp2_with fail
          go_roundw
          case rel => exact ⟨k + 1, g, by omega, by go_num, rfl, HSK⟩
          case measure => simp [intOf]; omega
        · have c1 : decide (60 < (lq : Int)) = false := by simp; omega
          have HL6 : Hid (d.l.length ≤ 60) := Lib.hid (by rw [← HLQ.out]; omega)
          clear g1
          go_wp2_with fail
          go_at_call 18; refine (Small_any _ _ d.n _ HKN.out).mono ?_; rintro e w3 ⟨rfl, rfl⟩
          by_cases g2 : (decide (d.n.length ≤ 60) && okB d.n) = true
          · rw [g2]
            have HN6 : Hid (d.n.length ≤ 60 ∧ GoodN d.n) := Lib.hid (by
              rw [Bool.and_eq_true] at g2
              exact ⟨by simpa using g2.1, okB_good g2.2⟩)
            clear g2 HSK
            go_upto_if 44 with fail
            go_cut [3] (fun s3 wx => ∃ g2 : Nat, s3 = .pointer (some ⟨g2, 0, none⟩) ∧ Hid (∃ s sv N, PL J W wx g2 s h sv N k ∧ Six J wx X g2 s h sv d (.slice la lq lc) (.slice na nq nc)))
            case first =>
              by_cases g6 : d.kd = 6
              · have c6 : (d.kd == 6) = true := by simpa using g6
                obtain ⟨s, sv, N, p, x⟩ := HP1.out
                have HP := Lib.hid p
                have HX := Lib.hid x
                clear p x g6
                go_wp2_with fail
                go_at_call 19; refine (J.clone _ g s N _ HP.out.two.pr (by have := HP.out.len; omega)).mono ?_; rintro e w4 ⟨g2, s2, rfl, q2, o2, b2⟩
                have HQ := Lib.hid (And.intro q2 (And.intro o2 b2))
                clear q2 o2 b2
                go_wp2_with fail
                go_at_call 20; refine (J.input _ g s N _ (J.keep HP.out.two.pr (only_below HQ.out.2.2) (fun _ _ e => e)) (by have := HP.out.len; omega)).mono ?_; rintro e w5 ⟨s3, rfl, -, m3⟩
                have HE := Lib.hid (pl_clone HP.out HX.out HQ.out.1 HQ.out.2.1 HQ.out.2.2 m3)
                clear m3
                go_wp2_with fail
                go_meet
                exact ⟨g2, rfl, Lib.hid ⟨_, _, _, HE.out⟩⟩
              · have c6 : (d.kd == 6) = false := by simpa using g6
                clear g6
                go_wp2_with fail
                go_meet
                exact ⟨g, rfl, HP1⟩
            case rest =>
              obtain ⟨g2, rfl, HP2⟩ := hcut
              obtain ⟨w4, rfl⟩ : ∃ w4 : World, w4 = wc := ⟨_, rfl⟩
              obtain ⟨s, sv, N, p, x⟩ := HP2.out
              have HP : Hid (PL J W w4.drew g2 s h sv N k) := Lib.hid (p.on ((Below.refl _ w4).drew))
              have HX := Lib.hid x
              obtain ⟨x0, x1, x2, x3, x4, x5, -, -, -⟩ := x
              clear p HP1 HP2 HKN f0 f4 f5
              go_upto_region 17 with fail
              go_region_with (first | (go_at_call 21; refine (step_any J g2 s N h sv N d _ _ W _ HP.out.two HP.out.bel (by have := HP.out.len; omega) (by have := HP.out.len; omega) HAT.out.ha HAT.out.hb HAT.out.hc HAT.out.hl HAT.out.sl HL6.out HAT.out.hn HAT.out.sn HN6.out.1 HN6.out.2).mono ?_; rintro e w5 ⟨s2, sv2, he, t2, b2⟩; rw [stepB_same] at he; subst he; have HT2 := Lib.hid t2; have HB2 := Lib.hid b2; obtain ⟨B2, hr2⟩ := t2.rf; obtain ⟨a2, c2, rfl⟩ := hr2.form; have ch := hr2.one.cells.1; clear hr2 t2 b2) | (go_at_call 22; refine (J.len _ g2 s2 _ _ HT2.out.pr).mono ?_; rintro e w6 ⟨rfl, rfl⟩) | fail)
              all_goals
                have HE := Lib.hid (pl_step HP.out HT2.out HB2.out HL6.out HN6.out.1)
                clear HT2 HB2 ch x0 x1 x2 x3 x4 x5
                go_wp2_with fail
                go_roundw
                case rel => exact ⟨k + 1, g2, by omega, by go_num, rfl, Lib.hid ⟨s2, _, _, HE.out⟩⟩
                case measure => simp [intOf]; omega
          · rw [Bool.not_eq_true] at g2
            rw [g2]
            clear g2
            go_wp2_with fail
            go_roundw
            case rel => exact ⟨k + 1, g, by omega, by go_num, rfl, HSK⟩
            case measure => simp [intOf]; omega
      · obtain rfl : m = k := by omega
        clear h1 hk
        go_upto_region 19 with fail
        obtain ⟨s, sv, N, p⟩ := HP.out
        have HQ : Hid (PL J W wo.drew g s h sv N m) := Lib.hid (p.on ((Below.refl _ wo).drew))
        have HN : Hid (N.length ≤ 900000) := Lib.hid (by have := p.len; omega)
        have HN4 : Hid (N.length ≤ 5000) := Lib.hid (by have := p.len; omega)
        obtain ⟨B, hr⟩ := p.two.rf
        have c0 := hr.one.cells.1
        have hlh := hr.one.lt
        obtain ⟨a2, cc, rfl⟩ := hr.form
        have c0d : wo.drew.cell? ⟨h, 0, none⟩ = some (.slice a2 N.length cc) := c0
        clear p hr HP
        go_region_held3 (fun w' => w'.cell? ⟨h, 0, none⟩ = some (.slice a2 N.length cc))
          (first | (exact c8) | (exact c7) | (exact c6) | (exact c5) | (exact c0d) | go_keep)
          (first | (go_at_call 23; refine (J.net _ g s N _ HQ.out.two.pr HN.out).mono ?_; rintro e w5 ⟨u, ms, rfl, kn, kl, ks, b5⟩; have c5 := (b5.cell (p := ⟨h, 0, none⟩) hlh).trans c0d; have H5 := Lib.hid (HQ.out.on b5)) | (go_at_call 15; obtain ⟨B5, hr5⟩ := H5.out.two.rf; refine (refSame_yes _ _ u _ ms _ _ kn (rs_knds hr5) (by rw [List.length_map]; exact kl) (by rw [kl]; exact HN4.out) (by rw [kl]; exact ks)).mono ?_; rintro e w6 ⟨rfl, b6⟩; have hl5 := Nat.lt_of_lt_of_le hlh b5.size; have c6 := (b6.cell (p := ⟨h, 0, none⟩) hl5).trans c5; have H6 := Lib.hid (H5.out.on b6)) | (go_at_call 23; refine (J.net _ g s N _ H6.out.two.pr HN.out).mono ?_; rintro e w7 ⟨u7, ms7, rfl, kn7, kl7, ks7, b7⟩; have c7 := (b7.cell (p := ⟨h, 0, none⟩) (Nat.lt_of_lt_of_le hl5 b6.size)).trans c6; have H7 := Lib.hid (H6.out.on b7)) | (go_at_call 8; refine (C _ u7 ms7 _ kn7 (by rw [kl7]; have := HN.out; omega)).mono ?_; rintro e w8 ⟨he, b8⟩; rw [same_chk kl7 ks7 HQ.out.tidy.good] at he; subst he; have c8 := (b8.cell (p := ⟨h, 0, none⟩) (Nat.lt_of_lt_of_le (Nat.lt_of_lt_of_le hl5 b6.size) b7.size)).trans c7; have H8 := Lib.hid (H7.out.on b8)) | fail)
        all_goals
          clear kn kl ks kn7 kl7 ks7 b5 b6 b7 b8 c0 c0d c5 c6 c7 c8
          go_wp2_with fail
          go_ret
          exact ⟨rfl, H8.out.bel⟩
end Go.Proofs.Ytfdihlicmmcjjaa.aig
