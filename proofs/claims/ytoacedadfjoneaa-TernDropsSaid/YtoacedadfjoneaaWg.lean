/- The walk of the project's free: what becomes open with an input. -/
import Derived.Test.YtoacedadfjoneaaWf
import Derived.Test.YtoacedadfjoneaaFq
namespace Go.Proofs.Ytoacedadfjoneaa.aig
open Go.RowKit
open Go.Proofs.Ytoacedadfjoneaa.mem Go.Proofs.Ytoacedadfjoneaa.agf Go.Proofs.Ytoacedadfjoneaa.fns
open Go.Proofs.Ytoacedadfjoneaa.ints (Ints ints_of_owned below_drewN)
open Go.Proofs.Ytoacedadfjoneaa.tri (tLit)

theorem And_q {a b r : Int} (h : tAnd a b = r) (w : World) : Calls Try.prog 53 #[.int .i64 a, .int .i64 b] w fun e w' => e = .returned (.int .i64 r) ∧ w = w' := by
  have := tri.And_any a b w; rw [h] at this; exact this
theorem KInts.cell_ {P : Nat → Prop} {w : World} {a : Option Addr} {m cap : Nat} {zs : List Int} (h : KInts P w (.slice a m cap) zs) {i : Nat} (hi : i < m) : ∃ b off, a = some ⟨b, off, none⟩ ∧ b < w.heap.size ∧ w.cell? ⟨b, off + i, none⟩ = some (.int .i64 (zs.getD i 0)) := by
  obtain ⟨a', cap', hv, h1, h2, h3⟩ := h
  obtain ⟨rfl, rfl, rfl⟩ := Value.slice.inj hv
  obtain ⟨b, off, ha, hlt, -, hc⟩ := h3 (by omega)
  exact ⟨b, off, ha, hlt, hc i hi⟩
/-- how free leaves things -/
def FreeT (d : DC) (B : Nat) (V T ls out : List Int) (M : List Bool) (k : Nat) (w : World) (e : Ending) (w' : World) : Prop :=
  ∃ (fv : Value) (U R : List Int) (b : Bool), e = .returned (.tuple #[fv, .bool b]) ∧ DpB d B w' U M ∧ Moved (DB d.tv d.tm B) (DB d.tv d.tm B) w w' ∧ w'.ownsRow B 3 1 fv R.length (R.map (Value.int .i64)) ∧ FreeOk d.ns d.F V T ls out M k U R b
def FreeI (d : DC) (B : Nat) (V T : List Int) (M : List Bool) (v : Nat) (X : Nat → Prop) (w wr : World) (fv : Value) (U R : List Int) : Prop :=
  DpB d B wr U M ∧ Moved (DB d.tv d.tm B) (DB d.tv d.tm B) w wr ∧ wr.ownsRow B 3 1 fv R.length (R.map (Value.int .i64)) ∧ Fr d.ns V T d.F M X U R ∧ U.getD v 0 = 2
theorem FreeI.on {d : DC} {B : Nat} {V T : List Int} {M : List Bool} {v : Nat} {X : Nat → Prop} {w wr wr' : World} {fv : Value} {U R : List Int} (h : FreeI d B V T M v X w wr fv U R) (hb : Below wr.heap.size wr wr') :
    FreeI d B V T M v X w wr' fv U R ∧ Moved (DB d.tv d.tm B) (DB d.tv d.tm B) wr wr' := by
  obtain ⟨h1, h2, h3, h4, h5⟩ := h
  obtain ⟨g1, g2⟩ := h1.on hb
  exact ⟨⟨g1, h2.trans g2, own_on h3 hb, h4, h5⟩, g2⟩
/-- behind a gate that becomes open -/
theorem FreeI.add {d : DC} {B : Nat} {V T : List Int} {M : List Bool} {v : Nat} {X X' : Nat → Prop} {w wr w4 : World} {t n c t2 c2 : Nat} {U R : List Int} (h : FreeI d B V T M v X w wr (.slice (some ⟨t, 0, none⟩) n c) U R) {ob : Obj} {g : Nat}
    (hown : w4.ownsRow B 3 1 (.slice (some ⟨t2, 0, none⟩) (n + 1) c2) (n + 1) (R.map (Value.int .i64) ++ [.int .i64 (g : Int)])) (hgrow : ((wr.setCell ⟨d.tv, g, none⟩ (.int .i64 2)).alloc ob).grownBy w4 (some t)) (ht : B ≤ t) (hn : n = R.length)
    (hF : Fr d.ns V T d.F M X' (U.set g 2) (R ++ [(g : Int)])) (h2 : (U.set g 2).getD v 0 = 2) :
    FreeI d B V T M v X' w w4 (.slice (some ⟨t2, 0, none⟩) (n + 1) c2) (U.set g 2) (R ++ [(g : Int)]) ∧ Moved (DB d.tv d.tm B) (DB d.tv d.tm B) wr w4 := by
  obtain ⟨h1, h3, -⟩ := h
  obtain ⟨g1, g2⟩ := h1.setV g 2
  obtain ⟨g3, g4⟩ := g1.on (alloc_below (wr.setCell ⟨d.tv, g, none⟩ (.int .i64 2)) ob)
  obtain ⟨g5, g6⟩ := g3.moved hgrow (fun k hk => by cases hk; exact ht)
  exact ⟨⟨g5, h3.trans ((g2.trans g4).trans g6), by rw [List.length_append, List.length_singleton, ← hn, ← map_snocI]; exact hown, hF, h2⟩, (g2.trans g4).trans g6⟩
set_option maxRecDepth 100000 in
set_option maxHeartbeats 3200000 in
theorem free_any (d : DC) (B : Nat) (V T ls out : List Int) (M : List Bool) (v k : Nat) (w : World) (h : DpB d B w V M) (hf : FreeIn d.ns d.F V T ls out M v k) :
    Calls Try.prog 46 #[.pointer (some ⟨d.g, 0, none⟩), .int .i64 (v : Int)] w (FreeT d B V T ls out M k w) := by
  obtain ⟨i0, hi, hz0, hz1, hz2⟩ := info_parts infoI
  have hml := h.toDp.lens
  have hlen := h.len
  have hlv := hf.lt
  have hvq : v < d.q := by have := hf.lenV.1; omega
  have HF := Lib.hid hf
  have HH := Lib.hid h
  have HML := Lib.hid hml
  have HLN := Lib.hid hlen
  obtain ⟨-, -, -, c3, c4⟩ := h.toDp.cG
  obtain ⟨m1, -⟩ := h.toDp.cM hvq
  have hvs : v ≤ 1001 := by omega
  have d3 : (v : Int) < (d.q : Int) := by omega
  obtain ⟨b, hb⟩ : ∃ b, b = M.getD v false := ⟨_, rfl⟩
  rw [← hb] at m1
  have HBB := Lib.hid hb
  clear h hf hml hlen hlv hb
  cases b with
  | true =>
    have HE : Hid (FreeT d B V T ls out M k w (.returned (.tuple #[.slice none 0 0, .bool false])) w) := Lib.hid ⟨_, V, [], false, rfl, HH.out, Moved.refl _ _, World.ownsRow_nil _ _ _ _, HF.out.none (by simpa using HBB.out.symm)⟩
    go_enter Try.func46, Try.ntmps46
    go_wp2_with fail
    go_ret2
    exact HE.out
  | false =>
    obtain ⟨y1, y2⟩ := HH.out.toDp.cV hvq
    have hlow := HH.out.low
    have HST := Lib.hid (HF.out.start (by simpa using HBB.out.symm))
    obtain ⟨hd1, hm1⟩ := HH.out.setV v 2
    have hws : (w.setCell ⟨d.tv, v, none⟩ (.int .i64 2)).heap.size = w.heap.size := by simp
    have hr0 := row_lit (w.setCell ⟨d.tv, v, none⟩ (.int .i64 2)) #[.int .i64 (v : Int)] 1 rfl (by omega)
    obtain ⟨hd2, hm2⟩ := hd1.on (alloc_below (w.setCell ⟨d.tv, v, none⟩ (.int .i64 2)) (.cells #[.int .i64 (v : Int)] 3))
    rw [hws] at hr0
    have HI0 : Hid (FreeI d B V T M v (Pnd d.ns [(v : Int)] 0) w ((w.setCell ⟨d.tv, v, none⟩ (.int .i64 2)).alloc (.cells #[.int .i64 (v : Int)] 3)) (.slice (some ⟨w.heap.size, 0, none⟩) 1 1) (V.set v 2) [(v : Int)]) :=
      Lib.hid ⟨hd2, hm1.trans hm2, row_up hr0 (by omega), HST.out.1, HST.out.2⟩
    have h3 := hlow.1
    have h4 := hlow.2.1
    have h5 := hlow.2.2.1
    have h6 := hlow.2.2.2
    have g1 : d.g < w.heap.size := by omega
    have g2 : d.tv < w.heap.size := by omega
    clear hr0 hd1 hm1 hd2 hm2 hws HST hlow
    go_enter Try.func46, Try.ntmps46
    go_wp2_with fail
    obtain ⟨W0, hW0⟩ : ∃ W0, W0 = (w.setCell ⟨d.tv, v, none⟩ (.int .i64 2)).alloc (.cells #[.int .i64 (v : Int)] 3) := ⟨_, rfl⟩
    rw [← hW0] at HI0 ⊢
    clear hW0 y1 y2 c3 c4 m1 h3 h4 h5 h6 g1 g2
    have HRM : Hid (∀ X U R, Fr d.ns V T d.F M X U R → R.length ≤ 1002) := Lib.hid (fun X U R hh => by have h1 := hh.room; have h2 := HML.out.1; have h3 := HLN.out; omega)
    go_loopw [6, 7] (fun l iv wr => ∃ (i : Nat) (fv : Value) (U R : List Int), l = fv ∧ iv = .int .i64 i ∧ i ≤ R.length ∧ Hid (FreeI d B V T M v (Pnd d.ns R i) w wr fv U R)) (fun _ iv _ => 2000 - (intOf iv).toNat)
    case atStart => exact ⟨0, _, _, _, rfl, by go_num, by simp, HI0⟩
    case round =>
      clear HI0
      obtain ⟨i, fv, U, R, hfv, rfl, hiR, HI⟩ := hrel
      obtain rfl : fv = _ := hfv.symm
      obtain ⟨wo, rfl⟩ : ∃ wo : World, wo = wr := ⟨_, rfl⟩
      have hrl := HRM.out _ _ _ HI.out.2.2.2.1
      obtain ⟨n, hn⟩ : ∃ n, n = R.length := ⟨_, rfl⟩
      by_cases hlt : i < n
      · obtain ⟨t, c, rfl, l1, l2, l3⟩ := own_formI HI.out.2.2.1 hn.symm (by omega)
        unfold maxLen at l2
        obtain ⟨x, hx, hxV, -⟩ := HI.out.2.2.2.1.org (R.getD i 0) (by simp [List.getD, show i < R.length by omega])
        have hrow := HI.out.2.2.1
        have e1 : wo.cell? ⟨t, i, none⟩ = some (.int .i64 (x : Int)) := by
          rw [← hn] at hrow
          rw [hrow.cellAt i (by omega), List.getElem?_map, List.getElem?_eq_getElem (by omega)]
          rw [← hx]; simp [List.getD, show i < R.length by omega]
        have hxq : x < d.q := by rw [← HML.out.1]; exact hxV
        obtain ⟨-, c1, -, -, -⟩ := HI.out.1.toDp.cG
        obtain ⟨gb', goff', gv, hga, hgl, e2, hgv⟩ := HI.out.1.gates.at_ hxq
        have HX := Lib.hid hx
        have hfe : (fanLL d.ns).getD x [] = fanL d.ns x := fanLL_at (by rw [HML.out.2.2.2]; have := HLN.out; omega)
        rw [hfe] at hgv
        have hfl := fanL_len d.ns x
        have HGV0 := Lib.hid hgv
        obtain ⟨ga, gc, rfl, p1, p2⟩ : ∃ a c, gv = .slice a (fanL d.ns x).length c ∧ (fanL d.ns x).length ≤ c ∧ c ≤ maxLen := by obtain ⟨a, c, h1, h2, h3, -⟩ := hgv; exact ⟨a, c, h1, h2, h3⟩
        unfold maxLen at p2
        obtain ⟨m, hm⟩ : ∃ m, m = (fanL d.ns x).length := ⟨_, rfl⟩
        rw [← hm] at HGV0 hfl p1 e2
        have HMM := Lib.hid hm
        have HNN := Lib.hid hn
        have d1 : (i : Int) < (n : Int) := by omega
        have d2 : 0 ≤ (i : Int) := by omega
        have d4 : (x : Int) < (d.q : Int) := by omega
        have d5 : 0 ≤ (x : Int) := by omega
        have hmm : m ≤ 1000 := by have := HML.out.2.2.2; have := HLN.out; omega
        have HGE : Hid (gb' = d.gb ∧ goff' = d.goff) := Lib.hid (by simpa using hga.symm)
        have e3 : wo.cell? ⟨d.gb, d.goff + x, none⟩ = some (.slice ga m gc) := by rw [← HGE.out.1, ← HGE.out.2]; exact e2
        have hn2 : n ≤ 1002 := by omega
        have HPI : Hid (FreeI d B V T M v (PndI d.ns R i x 0) w wo (.slice (some ⟨t, 0, none⟩) n c) U R) := Lib.hid ⟨HI.out.1, HI.out.2.1, HI.out.2.2.1, HI.out.2.2.2.1.weaken (fun g hg => pnd_in hx hg), HI.out.2.2.2.2⟩
        have HIR : Hid (i < R.length) := Lib.hid (by omega)
        clear hx hxV hrow hga hgl e2 hgv hfe hfl hm hn hrl hiR
        go_upto_region 8 with fail
        go_quiet (fail)
        go_wp2_with fail
        have hb0 : Below wo.heap.size wo (wo.drewN nq) := below_drewN (Below.refl _ _) nq
        obtain ⟨hp1, hp2⟩ := HPI.out.on hb0
        have HP1 : Hid (FreeI d B V T M v (PndI d.ns R i x 0) w (wo.drewN nq) (.slice (some ⟨t, 0, none⟩) n c) U R) := Lib.hid hp1
        have HGV : Hid (∀ W, Moved (DB d.tv d.tm B) (DB d.tv d.tm B) (wo.drewN nq) W → KInts (DB d.tv d.tm B) W (.slice ga m gc) (fanL d.ns x)) := Lib.hid (fun W hm => HGV0.out.move (hp2.trans hm))
        obtain ⟨W0, hW0⟩ : ∃ W0, W0 = wo.drewN nq := ⟨_, rfl⟩
        rw [← hW0] at HP1 HGV ⊢
        clear hb0 hp1 hp2 hW0 HGV0 HPI HI c1 e1 e3
        have HFI := Lib.hid (fun p hp => fan_is (ns := d.ns) (x := x) (p := p) hp)
        have HPN := Lib.hid (fun (R : List Int) p g hp h => pnd_next (ns := d.ns) (R := R) (i := i) (x := x) (p := p) (g := g) hp h)
        go_loopw [6, 44] (fun l pv wr => ∃ (p n2 t2 c2 : Nat) (U R : List Int), p ≤ m ∧ l = .slice (some ⟨t2, 0, none⟩) n2 c2 ∧ pv = .int .i64 p ∧ n2 = R.length ∧ i < n2 ∧ B ≤ t2 ∧ Hid (R.getD i 0 = (x : Int)) ∧ Hid (FreeI d B V T M v (PndI d.ns R i x p) w wr (.slice (some ⟨t2, 0, none⟩) n2 c2) U R ∧ Moved (DB d.tv d.tm B) (DB d.tv d.tm B) W0 wr)) (fun _ pv _ => m - (intOf pv).toNat)
        case atStart => exact ⟨0, n, t, c, U, R, Nat.zero_le _, rfl, by go_num, HNN.out, hlt, l3, HX, Lib.hid ⟨HP1.out, Moved.refl _ _⟩⟩
        case round =>
          clear HP1 HX HNN HIR hlt l1 l2 l3 hn2 d1
          obtain ⟨p, n2, t2, c2, U2, R2, hpm, rfl, rfl, hn2, hin, hBt, HX2, HW⟩ := hrel
          obtain ⟨wi, rfl⟩ : ∃ wi : World, wi = wr := ⟨_, rfl⟩
          have hrl := HRM.out _ _ _ HW.out.1.2.2.2.1
          rw [← hn2] at hrl
          have HN2 := Lib.hid hn2
          clear hn2
          by_cases hpl : p < m
          · obtain ⟨b5, off5, rfl, hb5l, e1⟩ := (HGV.out _ HW.out.2).cell_ hpl
            obtain ⟨kk, hg1, hkn, hng⟩ := HFI.out p (by rw [← HMM.out]; exact hpl)
            obtain ⟨a, b, hns, hN, ga1, gb1⟩ := gate_nat HF.out.good hkn hng
            rw [hg1] at e1
            obtain ⟨g, hgk⟩ : ∃ g, g = kk + 1 := ⟨_, rfl⟩
            rw [← hgk] at e1 hg1
            have hkm : kk < d.m := by rw [← HML.out.2.2.2]; exact hkn
            have hgq : g < d.q := by have := HLN.out; omega
            have HSD := Lib.hid (fun W (hd : Dp d W U2 M) => sides_any d U2 M g kk a b W hd hgk hkm hns)
            obtain ⟨sa1, hsa⟩ : ∃ s, s = tLit U2 (a : Int) := ⟨_, rfl⟩
            obtain ⟨sb1, hsb⟩ : ∃ s, s = tLit U2 (b : Int) := ⟨_, rfl⟩
            rw [← hsa, ← hsb] at HSD
            obtain ⟨u, hu⟩ : ∃ u, u = U2.getD g 0 := ⟨_, rfl⟩
            obtain ⟨mg, hmg⟩ : ∃ b, b = M.getD g false := ⟨_, rfl⟩
            have HU := Lib.hid hu
            have HMG := Lib.hid hmg
            have HSA := Lib.hid hsa
            have HSB := Lib.hid hsb
            have HGK := Lib.hid hgk
            have HNA := Lib.hid hN
            have HG1 := Lib.hid hg1
            have q1 : (p : Int) < (m : Int) := by omega
            have q2 : 0 ≤ (p : Int) := by omega
            have q3 : (g : Int) < (d.q : Int) := by omega
            have q4 : 0 ≤ (g : Int) := by omega
            have hgs : g ≤ 1001 := by have := HLN.out; omega
            have hp1000 : p ≤ 1000 := by omega
            have HGQ := Lib.hid hgq
            clear hg1 hkn hng hns hN ga1 gb1 hgk hkm hsa hsb hu hmg
            go_upto_region 11 with fail
            go_wp2_with fail
            go_at_call 52; refine (HSD.out _ HW.out.1.1.toDp).mono ?_; rintro e w3 ⟨rfl, hb3⟩
            obtain ⟨hp1, hp2⟩ := HW.out.1.on hb3
            have HW3 : Hid (FreeI d B V T M v (PndI d.ns R2 i x p) w w3 (.slice (some ⟨t2, 0, none⟩) n2 c2) U2 R2 ∧ Moved (DB d.tv d.tm B) (DB d.tv d.tm B) W0 w3) := Lib.hid ⟨hp1, HW.out.2.trans hp2⟩
            obtain ⟨-, -, -, c3, c4⟩ := hp1.1.toDp.cG
            obtain ⟨z1, z2⟩ := hp1.1.toDp.cV hgq
            obtain ⟨m1, -⟩ := hp1.1.toDp.cM hgq
            rw [← HU.out] at z1
            rw [← HMG.out] at m1
            clear hb3 hp1 hp2 HW hgq e1 HSD
            by_cases u2 : u = 2
            · subst u2
              have HE : Hid (FreeI d B V T M v (PndI d.ns R2 i x (p + 1)) w w3 (.slice (some ⟨t2, 0, none⟩) n2 c2) U2 R2 ∧ Moved (DB d.tv d.tm B) (DB d.tv d.tm B) W0 w3) := Lib.hid ⟨⟨HW3.out.1.1, HW3.out.1.2.1, HW3.out.1.2.2.1,
                HW3.out.1.2.2.2.1.skip HNA.out (.inl (by rw [← HGK.out]; exact HU.out.symm)) (fun g' hg' => by
                  have := HPN.out R2 p g' (by rw [← HMM.out]; exact hpl) hg'
                  rwa [HG1.out, HGK.out] at this), HW3.out.1.2.2.2.2⟩, HW3.out.2⟩
              clear hpl z2 m1 c4
              go_wp2_with fail
              go_roundw
              case rel => exact ⟨p + 1, n2, t2, c2, U2, R2, by omega, rfl, by go_num, HN2.out, hin, hBt, HX2, HE⟩
              case measure => simp [intOf]; omega
            · have cu : (u == 2) = false := by simpa using u2
              obtain ⟨r, hr⟩ : ∃ r, r = tAnd sa1 sb1 := ⟨_, rfl⟩
              have HAN := Lib.hid (fun W => And_q hr.symm W)
              have HR := Lib.hid hr
              clear hr
              by_cases r2 : r = 2
              · subst r2
                have hT2 : T.getD g 0 = 2 := by
                  rw [HGK.out]
                  exact HW3.out.1.2.2.2.1.forced HF.out.good HF.out.small HF.out.hT HF.out.below HF.out.lenV.2 HNA.out (by rw [← HSA.out, ← HSB.out]; exact HR.out.symm)
                have HT2 := Lib.hid hT2
                clear hT2
                cases mg with
                | true =>
                  have HE : Hid (FreeT d B V T ls out M k w (.returned (.tuple #[.slice (some ⟨t2, 0, none⟩) n2 c2, .bool false])) w3) := Lib.hid ⟨_, U2, R2, false, rfl, HW3.out.1.1, HW3.out.1.2.1, HW3.out.1.2.2.1, HF.out.stop HW3.out.1.2.2.2.1 HMG.out.symm HT2.out⟩
                  clear hpl z2 u2
                  go_wp2_with fail
                  go_at_call 53; refine (HAN.out _).mono ?_; rintro e w4 ⟨rfl, rfl⟩
                  go_wp2_with fail
                  go_ret2
                  exact HE.out
                | false =>
                  have HADD := Lib.hid (HW3.out.1.2.2.2.1.add HF.out.good HF.out.small HF.out.fv (k := kk) (X' := PndI d.ns (R2 ++ [(g : Int)]) i x (p + 1)) (by rw [HML.out.1, ← HGK.out]; exact HGQ.out) (by rw [← HGK.out, ← HU.out]; exact u2) (by rw [← HGK.out]; exact HT2.out) (by rw [← HGK.out]; exact HMG.out.symm)
                    (fun g' hg' => by
                      have := HPN.out R2 p g' (by rw [← HMM.out]; exact hpl) hg'
                      rw [HG1.out, HGK.out] at this
                      exact this.imp id (pnd_more _))
                    (fun g' hg' => by
                      rw [HGK.out]
                      refine pnd_new (by rw [← HN2.out]; exact hin) ?_
                      obtain ⟨pp, hpp, rfl⟩ := List.mem_iff_getElem.1 hg'
                      obtain ⟨kx, hkx, -, -⟩ := fan_is (ns := d.ns) (x := kk + 1) (p := pp) hpp
                      have e : (fanL d.ns (kk + 1))[pp] = ((kx + 1 : Nat) : Int) := by rw [← hkx]; simp [List.getD, hpp]
                      rw [e, Int.toNat_natCast, ← e]; exact List.getElem_mem hpp))
                  rw [← HGK.out] at HADD
                  have HUV : Hid ((U2.set g 2).getD v 0 = 2) := Lib.hid (by
                    rw [set_two (by rw [HW3.out.1.2.2.2.1.len, HML.out.1]; exact HGQ.out)]
                    split
                    · rfl
                    · exact HW3.out.1.2.2.2.2)
                  obtain ⟨g1, g2⟩ := HW3.out.1.1.setV g 2
                  have hrow := own_moved HW3.out.1.2.2.1 (dw_set d.tv d.tm d.tv g (.inl rfl) w3 (.int .i64 2)) (fun k hk e => by
                    have hk' : t2 = k := by simpa [Value.ownBlock] using hk
                    have := HH.out.low
                    rcases e with e | e <;> omega)
                  have hrow2 := own_on hrow (alloc_below (w3.setCell ⟨d.tv, g, none⟩ (.int .i64 2)) (.cells #[.int .i64 (g : Int)] 3))
                  rw [← HN2.out] at hrow2
                  have HROW := Lib.hid hrow2
                  have hbz : B ≤ w3.heap.size := by have := HW3.out.1.1.low; omega
                  clear g1 g2 hrow hrow2 u2
                  go_wp2_with fail
                  go_at_call 53; refine (HAN.out _).mono ?_; rintro e w4 ⟨rfl, rfl⟩
                  go_wp2_with (at_builtin; refine wpList_append_lies _ rfl (.tmp 82) (.tmp 84) 23 rfl B 3 i0 (.int .i64 0) 1 8 Try.underlying23 hi hz0 hz1 hz2 rfl (by decide) (.slice (some ⟨t2, 0, none⟩) n2 c2) n2 (R2.map (Value.int .i64)) rfl HROW.out ⟨w3.heap.size, 0, none⟩ 1 1 [.int .i64 (g : Int)] rfl rfl (by have := news1 (w3.setCell ⟨d.tv, g, none⟩ (.int .i64 2)) (.int .i64 (g : Int)) 3; simpa using this) (one_cell _) (by omega) (by unfold maxLen; omega) (by omega) (by simp; omega) _ rfl ?_)
                  intro t3 c3' w5 hown hgrow hat _
                  obtain ⟨hq1, hq2⟩ := HW3.out.1.add hown hgrow hBt HN2.out HADD.out HUV.out
                  have HE : Hid (FreeI d B V T M v (PndI d.ns (R2 ++ [(g : Int)]) i x (p + 1)) w w5 (.slice (some ⟨t3, 0, none⟩) (n2 + 1) c3') (U2.set g 2) (R2 ++ [(g : Int)]) ∧ Moved (DB d.tv d.tm B) (DB d.tv d.tm B) W0 w5) := Lib.hid ⟨hq1, HW3.out.2.trans hq2⟩
                  have HB3 : Hid (B ≤ t3) := Lib.hid (by have := (hown.lt t3 rfl).1; exact this)
                  have HX3 : Hid ((R2 ++ [(g : Int)]).getD i 0 = (x : Int)) := Lib.hid (by rw [snocI_l (by rw [← HN2.out]; exact hin)]; exact HX2.out)
                  clear hown hgrow hat hq1 hq2 hpl
                  go_wp2_with fail
                  go_roundw
                  case rel => exact ⟨p + 1, n2 + 1, t3, c3', U2.set g 2, R2 ++ [(g : Int)], by omega, rfl, by go_num, by rw [List.length_append, List.length_singleton, HN2.out], by omega, HB3.out, HX3, HE⟩
                  case measure => simp [intOf]; omega
              · have cr : (r != 2) = true := by simpa using r2
                have HE : Hid (FreeI d B V T M v (PndI d.ns R2 i x (p + 1)) w w3 (.slice (some ⟨t2, 0, none⟩) n2 c2) U2 R2 ∧ Moved (DB d.tv d.tm B) (DB d.tv d.tm B) W0 w3) := Lib.hid ⟨⟨HW3.out.1.1, HW3.out.1.2.1, HW3.out.1.2.2.1,
                  HW3.out.1.2.2.2.1.skip HNA.out (.inr (by rw [← HSA.out, ← HSB.out, ← HR.out]; exact r2)) (fun g' hg' => by
                    have := HPN.out R2 p g' (by rw [← HMM.out]; exact hpl) hg'
                    rwa [HG1.out, HGK.out] at this), HW3.out.1.2.2.2.2⟩, HW3.out.2⟩
                clear hpl z2 m1 c4 u2 r2
                go_wp2_with fail
                go_at_call 53; refine (HAN.out _).mono ?_; rintro e w4 ⟨rfl, rfl⟩
                go_wp2_with fail
                go_roundw
                case rel => exact ⟨p + 1, n2, t2, c2, U2, R2, by omega, rfl, by go_num, HN2.out, hin, hBt, HX2, HE⟩
                case measure => simp [intOf]; omega
          · obtain rfl : m = p := by omega
            have HE : Hid (FreeI d B V T M v (Pnd d.ns R2 (i + 1)) w wi (.slice (some ⟨t2, 0, none⟩) n2 c2) U2 R2) := Lib.hid ⟨HW.out.1.1, HW.out.1.2.1, HW.out.1.2.2.1, HW.out.1.2.2.2.1.weaken (fun g hg => pnd_out (by rw [← HMM.out]; exact Nat.le_refl _) hg), HW.out.1.2.2.2.2⟩
            clear hpl hpm
            go_wp2_with fail
            go_roundw
            case rel => exact ⟨i + 1, _, U2, R2, rfl, by go_num, by rw [← HN2.out]; omega, HE⟩
            case measure => simp [intOf]; omega
      · obtain rfl : n = i := by omega
        have HE : Hid (FreeT d B V T ls out M k w (.returned (.tuple #[fv, .bool true])) wo) := Lib.hid ⟨fv, U, R, true, rfl, HI.out.1, HI.out.2.1, HI.out.2.2.1, HF.out.all HI.out.2.2.2.1 HI.out.2.2.2.2 (fun g hg => by obtain ⟨r, h1, h2, -⟩ := hg; omega)⟩
        obtain ⟨fa, fc, rfl⟩ := own_sliceI HI.out.2.2.1
        rw [← hn] at HE ⊢
        clear hlt hiR hn
        go_wp2_with fail
        go_ret2
        exact HE.out
end Go.Proofs.Ytoacedadfjoneaa.aig
