/- The walk of the project's simulation: Eval; all that it has to be. -/
import Derived.Test.YtemolhmkhjfehaaDp
namespace Go.Proofs.Ytemolhmkhjfehaa.aig
open Go.RowKit
open Go.Proofs.Ytemolhmkhjfehaa.mem Go.Proofs.Ytemolhmkhjfehaa.agf
open Go.Proofs.Ytemolhmkhjfehaa.nats (Rd U rd_len rd_cell rd_form Rd.on rd_of_owned)

/-- a list of one list -/
theorem grid_one {w : World} {v : Value} {bs : List Bool} (h : KB w v bs) (t : TypeId) : GridB (w.alloc (.cells #[v] t)) (.slice (some ⟨w.heap.size, 0, none⟩) 1 1) [bs] := by
  refine ⟨_, _, rfl, Nat.le_refl _, by unfold maxLen; omega, fun _ => ⟨w.heap.size, 0, rfl, by simp, fun i hi => ⟨v, ?_, ?_⟩⟩⟩
  · have hi : i < 1 := hi
    obtain rfl : i = 0 := by omega
    have hb : (w.alloc (.cells #[v] t)).heap[w.heap.size]? = some (.cells #[v] t (0, 0)) := by
      show (w.heap.push _)[w.heap.size]? = _
      rw [Array.getElem?_push, if_pos rfl]
    rw [Joins.cell_of_block hb]; rfl
  · have hi : i < 1 := hi
    obtain rfl : i = 0 := by omega
    exact KB.on h (alloc_below _ _)
set_option maxHeartbeats 1600000 in
theorem sEval_any (v u : Value) (ns : List (Int × Int)) (bs : List Bool) (w : World) (hv : KNds (fun _ => False) w v ns) (hg : GoodN ns) (hn : ns.length ≤ 1000) (hu : KB w u bs) (hb : bs.length ≤ 1000) :
    Calls Try.prog 9 #[v, u] w (TellsB (st bs (ns.map absN)).1 w) := by
  obtain ⟨ua, ucap, rfl, -, -⟩ := hu.form9
  have HV := Lib.hid hv
  have HG := Lib.hid hg
  have HN := Lib.hid hn
  have HB : Hid (∀ l ∈ [bs], l.length ≤ 1000) := Lib.hid (fun l hl => by rw [List.mem_singleton.1 hl]; exact hb)
  have HGR := Lib.hid (grid_one hu 23)
  have HB0 := Lib.hid (alloc_below w (.cells #[.slice ua bs.length ucap] 23))
  have HPL := Lib.hid (packL_lt [bs])
  have HPN : Hid ((packL [bs]).length ≤ 1000) := Lib.hid (by rw [packL_len]; exact packN_le HB.out _)
  have HW := Lib.hid (wst_bits (zs := packL [bs]) (packL_lt [bs]) (good_abs hg) (by rw [List.length_map]; exact hn))
  have HL : Hid (laneZ (wst (packL [bs]) (ns.map absN)).1 0 = (st bs (ns.map absN)).1) := Lib.hid (by
    have e := lane_yes (wst (packL [bs]) (ns.map absN)).1 (i := 0) (by omega)
    rw [show (((0 : Nat) : Int)) = 0 from rfl] at e
    rw [e, HW.out.2.2 0 (by omega), pack_one])
  obtain ⟨ws, hws⟩ : ∃ ws, ws = (wst (packL [bs]) (ns.map absN)).1 := ⟨_, rfl⟩
  have HWS := Lib.hid hws.symm
  rw [← hws] at HW HL
  obtain ⟨ps, hps⟩ : ∃ ps, ps = packL [bs] := ⟨_, rfl⟩
  have HPS := Lib.hid hps.symm
  rw [← hps] at HPL HPN HWS
  obtain ⟨T, hT⟩ : ∃ T, T = (st bs (ns.map absN)).1 := ⟨_, rfl⟩
  rw [← hT] at HL
  rw [← hT]
  clear hv hg hn hu hb hws hps hT
  go_enter Try.func9, Try.ntmps9
  go_wp2_with fail
  go_at_call 17; refine (sPack_any _ [bs] _ HGR.out HB.out (by simp)).mono ?_; rintro e w2 ⟨u2, rfl, t2, b2⟩
  rw [HPS.out] at t2
  have HB2 := Lib.hid (HB0.out.trans (b2.mono HB0.out.size))
  have HT2 := Lib.hid t2
  clear t2 b2 HGR
  go_wp2_with fail
  go_at_call 13; refine (sWords_any _ _ ns ps _ (HV.out.on HB2.out) HG.out HN.out HT2.out HPL.out HPN.out).mono ?_; rintro e w3 ⟨u3, rfl, t3, b3⟩
  rw [HWS.out] at t3
  have HB3 := Lib.hid (HB2.out.trans (b3.mono HB2.out.size))
  have HT3 := Lib.hid t3
  clear t3 b3 HT2
  go_wp2_with fail
  go_at_call 19; refine (sLane_any _ ws 0 _ HT3.out HW.out.2.1 (by rw [HW.out.1, List.length_map]; have := HN.out; omega)).mono ?_; rintro e w4 ⟨u4, rfl, t4, b4⟩
  rw [HL.out] at t4
  have HE : Hid (TellsB T w (.returned u4) w4) := Lib.hid ⟨_, rfl, t4, HB3.out.trans (b4.mono HB3.out.size)⟩
  clear t4 b4
  go_wp2_with fail
  go_ret
  exact HE.out
theorem sim_ok : SimOk where
  eval := sEval_any
  lit := fun v bs l w hv hn _ => sLit_any v bs l w hv (by omega)
  words := fun v u ns zs w hv hg hn hu hz hl => (sWords_any v u ns zs w hv hg hn hu hz hl).mono fun e w' h => by
    obtain ⟨x, rfl, h1, h2⟩ := h
    have hb := wst_bits (zs := zs) hz (good_abs hg) (by rw [List.length_map]; exact hn)
    exact ⟨x, _, rfl, h1, by rw [hb.1, List.length_map], hb.2.1, hb.2.2, h2⟩
  word := fun v ws l w hv hw hn _ => (sWord_any v ws l w hv hw).mono fun e w' h => by
    obtain ⟨rfl, rfl⟩ := h
    exact ⟨_, rfl, litW_lt hw l, fun i hi => litW_bit hw (by omega) l hi, Below.refl _ _⟩
  lane := fun v zs i w hv hz hn _ => sLane_any v zs i w hv hz (by omega)
  pack := sPack_any
end Go.Proofs.Ytemolhmkhjfehaa.aig
