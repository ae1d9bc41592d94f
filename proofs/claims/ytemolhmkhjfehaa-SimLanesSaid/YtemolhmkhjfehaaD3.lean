/- What the project's simulation has to be; the walk of the statement on values. -/
import Derived.Test.YtemolhmkhjfehaaD2
import Derived.Test.YtemolhmkhjfehaaSm
namespace Go.Proofs.Ytemolhmkhjfehaa.aig
open Go.RowKit
open Go.Proofs.Ytemolhmkhjfehaa.mem Go.Proofs.Ytemolhmkhjfehaa.agf
open Go.Proofs.Ytemolhmkhjfehaa.nats (Rd U rd_len rd_cell rd_form Rd.on rd_of_owned)

/-- how truths are told -/
def TellsB (L : List Bool) (w : World) (e : Ending) (w' : World) : Prop := ∃ u, e = .returned u ∧ KB w' u L ∧ Below w.heap.size w w'
theorem told_tellsB {L : List Bool} {w w' : World} {e : Ending} (h : ToldB L w e w') : TellsB L w e w' := by
  obtain ⟨v, h1, h2, h3⟩ := h
  exact ⟨v, h1, kb_row h2, h3⟩
/-- a list of lists of truths -/
def GridB (w : World) (u : Value) (LL : List (List Bool)) : Prop :=
  ∃ (a : Option Addr) (cap : Nat), u = .slice a LL.length cap ∧ LL.length ≤ cap ∧ cap ≤ maxLen ∧ (0 < LL.length → ∃ b off, a = some ⟨b, off, none⟩ ∧ b < w.heap.size ∧ ∀ i, i < LL.length → ∃ v, w.cell? ⟨b, off + i, none⟩ = some v ∧ KB w v (LL.getD i []))
theorem GridB.on {w w' : World} {u : Value} {LL : List (List Bool)} (h : GridB w u LL) (hb : Below w.heap.size w w') : GridB w' u LL := by
  obtain ⟨a, cap, hv, h1, h2, h3⟩ := h
  refine ⟨a, cap, hv, h1, h2, fun hp => ?_⟩
  obtain ⟨b, off, ha, hlt, hc⟩ := h3 hp
  refine ⟨b, off, ha, Nat.lt_of_lt_of_le hlt hb.size, fun i hi => ?_⟩
  obtain ⟨v, h4, h5⟩ := hc i hi
  exact ⟨v, (hb.cell (p := ⟨b, off + i, none⟩) hlt).trans h4, KB.on h5 hb⟩
/-- what the project's simulation has to be -/
structure SimOk : Prop where
  eval : ∀ (v u : Value) (ns : List (Int × Int)) (bs : List Bool) (w : World), KNds (fun _ => False) w v ns → GoodN ns → ns.length ≤ 1000 → KB w u bs → bs.length ≤ 1000 →
    Calls Try.prog 9 #[v, u] w (TellsB (st bs (ns.map absN)).1 w)
  lit : ∀ (v : Value) (bs : List Bool) (l : Int) (w : World), KB w v bs → bs.length ≤ 1000 → In64 l →
    Calls Try.prog 11 #[v, .int .i64 l] w fun e w' => e = .returned (.bool (litB bs l)) ∧ Below w.heap.size w w'
  words : ∀ (v u : Value) (ns : List (Int × Int)) (zs : List Nat) (w : World), KNds (fun _ => False) w v ns → GoodN ns → ns.length ≤ 1000 → Rd U w u zs → (∀ z ∈ zs, z < 18446744073709551616) → zs.length ≤ 1000 →
    Calls Try.prog 13 #[v, u] w fun e w' => ∃ u ws, e = .returned u ∧ Rd U w' u ws ∧ ws.length = ns.length + 1 ∧ (∀ z ∈ ws, z < 18446744073709551616) ∧ (∀ i, i < 64 → (ws.map fun z => z.testBit i) = (st (zs.map fun z => z.testBit i) (ns.map absN)).1) ∧ Below w.heap.size w w'
  word : ∀ (v : Value) (ws : List Nat) (l : Int) (w : World), Rd U w v ws → (∀ z ∈ ws, z < 18446744073709551616) → ws.length ≤ 1000 → In64 l →
    Calls Try.prog 14 #[v, .int .i64 l] w fun e w' => ∃ x : Nat, e = .returned (.int .u64 x) ∧ x < 18446744073709551616 ∧ (∀ i, i < 64 → x.testBit i = litB (ws.map fun z => z.testBit i) l) ∧ Below w.heap.size w w'
  lane : ∀ (v : Value) (zs : List Nat) (i : Int) (w : World), Rd U w v zs → (∀ z ∈ zs, z < 18446744073709551616) → zs.length ≤ 1000 → In64 i →
    Calls Try.prog 19 #[v, .int .i64 i] w (TellsB (laneZ zs i) w)
  pack : ∀ (v : Value) (LL : List (List Bool)) (w : World), GridB w v LL → (∀ l ∈ LL, l.length ≤ 1000) → LL.length ≤ 1000 →
    Calls Try.prog 17 #[v] w fun e w' => ∃ u, e = .returned u ∧ Rd U w' u (packL LL) ∧ Below w.heap.size w w'
/-- the net of the example -/
def exN9 : List (Int × Int) := [(-1, 0), (-1, 0), (2, 5)]
theorem ex9_good : GoodN exN9 := okB_good (by decide)
theorem ex9_vals : (st [true, false] (exN9.map absN)).1 = [false, true, false, true] := by decide
theorem lives9_any (C : SimOk) (w : World) : Calls Try.prog 7 #[] w fun e w' => e = .returned (.bool true) ∧ Below w.heap.size w w' := by
  have HKN : Hid (KNds (fun _ => False) (w.alloc (.cells #[.int .i64 (-1), .int .i64 0, .int .i64 (-1), .int .i64 0, .int .i64 2, .int .i64 5] 42)) (.slice (some ⟨w.heap.size, 0, none⟩) 3 3) exN9) := Lib.hid (knds_lit w _ _ exN9 rfl (by decide))
  have HB0 : Hid (Below w.heap.size w (w.alloc (.cells #[.int .i64 (-1), .int .i64 0, .int .i64 (-1), .int .i64 0, .int .i64 2, .int .i64 5] 42))) := Lib.hid (alloc_below _ _)
  go_enter Try.func7, Try.ntmps7
  go_upto_region 2 with fail
  obtain ⟨W1, hW1⟩ : ∃ W1, W1 = w.alloc (.cells #[.int .i64 (-1), .int .i64 0, .int .i64 (-1), .int .i64 0, .int .i64 2, .int .i64 5] 42) := ⟨_, rfl⟩
  rw [← hW1] at HKN HB0 ⊢
  clear hW1
  go_wp2_with fail
  go_at_call 9; refine (C.eval _ _ exN9 [true, false] _ (HKN.out.on (alloc_below _ _)) ex9_good (by decide) (kb_lit W1 _ _ [true, false] rfl (by decide)) (by decide)).mono ?_; rintro e w2 ⟨u, rfl, t2, b2⟩
  rw [ex9_vals] at t2
  have HB2 := Lib.hid (HB0.out.trans (((alloc_below W1 (.cells #[.bool true, .bool false] 4)).trans (b2.mono (by simp))).mono HB0.out.size))
  have HT2 := Lib.hid t2
  clear t2 b2 HKN
  go_wp2_with fail
  go_at_call 8; refine (same9 (bs := [false, true, false, true]) rfl _ _ _ (HT2.out.on (alloc_below _ _)) (kb_lit w2 _ _ [false, true, false, true] rfl (by decide)) (by decide)).mono ?_; rintro e w3 ⟨rfl, b3⟩
  have HB3 := Lib.hid (HB2.out.trans (((alloc_below w2 (.cells #[.bool false, .bool true, .bool false, .bool true] 4)).trans (b3.mono (by simp))).mono HB2.out.size))
  clear b3
  go_wp2_with fail
  go_ret
  exact ⟨rfl, HB3.out⟩
set_option maxHeartbeats 1600000 in
theorem evals9_any (C : SimOk) (v iv vv : Value) (ns : List (Int × Int)) (is vs : List Bool) (l : Int) (W : World) (hv : KNds (fun _ => False) W v ns) (hi : KB W iv is) (hn1 : ∀ n c, iv = .slice none n c → n = 0) (hw : KB W vv vs) (hn2 : ∀ n c, vv = .slice none n c → n = 0) (hl : In64 l) :
    Calls Try.prog 3 #[v, iv, vv, .int .i64 l] W fun e w' => e = .returned (.bool true) ∧ Below W.heap.size W w' := by
  have HV := Lib.hid hv
  have HI := Lib.hid hi
  have HU := Lib.hid hw
  have HL := Lib.hid hl
  obtain ⟨aa, acap, rfl, a1, a2⟩ := hi.form9
  unfold maxLen at a2
  obtain ⟨ba, bcap, rfl, b1, b2⟩ := hw.form9
  unfold maxLen at b2
  have HN1 := Lib.hid hn1
  have HN2 := Lib.hid hn2
  obtain ⟨na, hna⟩ : ∃ na, na = is.length := ⟨_, rfl⟩
  obtain ⟨nb, hnb⟩ : ∃ nb, nb = vs.length := ⟨_, rfl⟩
  rw [← hna] at a1 HI HN1 ⊢
  rw [← hnb] at b1 HU HN2 ⊢
  have HNA := Lib.hid hna
  have HNB := Lib.hid hnb
  clear hv hi hw hn1 hn2 hna hnb hl
  by_cases hsm : (ns.length : Int) ≤ 200 ∧ okB ns = true
  · have HSM := Lib.hid (small_yes hsm)
    have HG := Lib.hid (okB_good hsm.2)
    have HNL : Hid (ns.length ≤ 1000) := Lib.hid (by omega)
    clear hsm
    by_cases c1 : na ≤ 300
    · have d1 : decide (300 < (na : Int)) = false := by simp; omega
      by_cases c2 : nb ≤ 300
      · have d2 : decide (300 < (nb : Int)) = false := by simp; omega
        have HIL : Hid (is.length ≤ 1000) := Lib.hid (by rw [← HNA.out]; omega)
        have HVL : Hid (vs.length ≤ 1000) := Lib.hid (by rw [← HNB.out]; omega)
        clear c1 c2
        go_enter Try.func3, Try.ntmps3
        go_wp2_with fail
        go_at_call 6; refine (Small8_of HSM.out _ HV.out (by omega) (by omega)).mono ?_; rintro e w' ⟨rfl, rfl⟩
        go_wp2_with (at_builtin; refine wpList_cloneB _ rfl _ _ rfl rfl (.slice aa na acap) is rfl HI.out HN1.out HIL.out ?_)
        intro ov w1 o1 b1
        have HO1 := Lib.hid o1
        have HB1 := Lib.hid b1
        clear o1 b1
        go_wp2_with fail
        go_at_call 9; refine (C.eval _ _ ns is _ (HV.out.on HB1.out) HG.out HNL.out HO1.out HIL.out).mono ?_; rintro e w2 ⟨u2, rfl, t2, b2⟩
        have HB2 := Lib.hid (HB1.out.trans (b2.mono HB1.out.size))
        have HT2 := Lib.hid t2
        clear t2 b2 HO1
        go_wp2_with fail
        go_at_call 10; refine (refValues_any (fun _ => False) _ _ ns is _ (HV.out.on HB2.out) (HI.out.on HB2.out) HG.out (by have := HNL.out; omega)).mono ?_; rintro e w3 h3
        obtain ⟨u3, rfl, t3, b3⟩ := told_tellsB h3
        have HB3 := Lib.hid (HB2.out.trans (b3.mono HB2.out.size))
        have HT3 := Lib.hid t3
        have HT2' := Lib.hid (HT2.out.on b3)
        clear h3 t3 b3 HT2
        go_wp2_with fail
        go_at_call 8; refine (same9 rfl _ _ _ HT2'.out HT3.out (by rw [st_len, List.length_map]; have := HNL.out; omega)).mono ?_; rintro e w4 ⟨rfl, b4⟩
        have HB4 := Lib.hid (HB3.out.trans (b4.mono HB3.out.size))
        clear b4 HT2' HT3
        go_wp2_with (at_builtin; refine wpList_cloneB _ rfl _ _ rfl rfl (.slice ba nb bcap) vs rfl (HU.out.on HB4.out) HN2.out HVL.out ?_)
        intro ov2 w5 o5 b5
        have HB5 := Lib.hid (HB4.out.trans (b5.mono HB4.out.size))
        have HO5 := Lib.hid o5
        clear o5 b5
        go_wp2_with fail
        go_at_call 11; refine (C.lit _ vs l _ HO5.out HVL.out HL.out).mono ?_; rintro e w6 ⟨rfl, b6⟩
        have HB6 := Lib.hid (HB5.out.trans (b6.mono HB5.out.size))
        clear b6 HO5
        go_wp2_with fail
        go_at_call 12; refine (refLit9_any _ vs l _ (HU.out.on HB6.out) HL.out).mono ?_; rintro e w' ⟨rfl, rfl⟩
        have c3 : (litB vs l == litB vs l) = true := by simp
        obtain ⟨x, hx⟩ : ∃ x, x = litB vs l := ⟨_, rfl⟩
        rw [← hx] at c3 ⊢
        clear hx
        go_wp2_with fail
        go_at_call 7; refine (lives9_any C _).mono ?_; rintro e wb ⟨rfl, bb⟩
        have HBB := Lib.hid (HB6.out.trans (bb.mono HB6.out.size))
        clear bb
        go_wp2_with fail
        go_ret
        exact ⟨rfl, HBB.out⟩
      · have d2 : decide (300 < (nb : Int)) = true := by simp; omega
        clear c1 c2
        go_enter Try.func3, Try.ntmps3
        go_wp2_with fail
        go_at_call 6; refine (Small8_of HSM.out _ HV.out (by omega) (by omega)).mono ?_; rintro e w' ⟨rfl, rfl⟩
        go_wp2_with fail
        go_at_call 7; refine (lives9_any C _).mono ?_; rintro e wb ⟨rfl, bb⟩
        have HBB := Lib.hid bb
        clear bb
        go_wp2_with fail
        go_ret
        exact ⟨rfl, HBB.out⟩
    · have d1 : decide (300 < (na : Int)) = true := by simp; omega
      clear c1
      go_enter Try.func3, Try.ntmps3
      go_wp2_with fail
      go_at_call 6; refine (Small8_of HSM.out _ HV.out (by omega) (by omega)).mono ?_; rintro e w' ⟨rfl, rfl⟩
      go_wp2_with fail
      go_at_call 7; refine (lives9_any C _).mono ?_; rintro e wb ⟨rfl, bb⟩
      have HBB := Lib.hid bb
      clear bb
      go_wp2_with fail
      go_ret
      exact ⟨rfl, HBB.out⟩
  · have HSM := Lib.hid (small_no hsm)
    clear hsm
    go_enter Try.func3, Try.ntmps3
    go_wp2_with fail
    go_at_call 6; refine (Small8_of HSM.out _ HV.out (by omega) (by omega)).mono ?_; rintro e w' ⟨rfl, rfl⟩
    go_wp2_with fail
    go_at_call 7; refine (lives9_any C _).mono ?_; rintro e wb ⟨rfl, bb⟩
    have HBB := Lib.hid bb
    clear bb
    go_wp2_with fail
    go_ret
    exact ⟨rfl, HBB.out⟩
end Go.Proofs.Ytemolhmkhjfehaa.aig
