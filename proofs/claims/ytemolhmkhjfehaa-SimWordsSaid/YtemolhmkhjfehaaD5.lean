/- The walk of the document's Pack. -/
import Derived.Test.YtemolhmkhjfehaaD3
namespace Go.Proofs.Ytemolhmkhjfehaa.aig
open Go.RowKit
open Go.Proofs.Ytemolhmkhjfehaa.mem Go.Proofs.Ytemolhmkhjfehaa.agf
open Go.Proofs.Ytemolhmkhjfehaa.nats (Rd U rd_len rd_cell rd_form Rd.on rd_of_owned)

/-- the words so far: those before the k-th whole, the k-th of the first i lists -/
def rowZ (LL : List (List Bool)) (n k i : Nat) : List Nat := (List.range n).map fun j => if j < k then packW LL j (packI LL) else if j = k then packW LL k i else 0
theorem rowZ_len (LL : List (List Bool)) (n k i : Nat) : (rowZ LL n k i).length = n := by simp [rowZ]
theorem rowZ_zero (LL : List (List Bool)) (n : Nat) : rowZ LL n 0 0 = List.replicate n 0 := by
  apply List.ext_getElem
  · simp [rowZ]
  · intro j h1 h2
    simp [rowZ, packW]
theorem rowZ_next (LL : List (List Bool)) (n k : Nat) : rowZ LL n k (packI LL) = rowZ LL n (k + 1) 0 := by
  unfold rowZ
  apply List.map_congr_left
  intro j _
  by_cases h : j < k
  · rw [if_pos h, if_pos (by omega)]
  · rw [if_neg h]
    by_cases e : j = k
    · rw [if_pos e, if_pos (by omega), e]
    · rw [if_neg e, if_neg (by omega)]
      split
      · rfl
      · rfl
theorem rowZ_all (LL : List (List Bool)) : rowZ LL (packN LL (packI LL)) (packN LL (packI LL)) 0 = packL LL := by
  unfold rowZ packL
  apply List.map_congr_left
  intro j hj
  rw [if_pos (List.mem_range.1 hj)]
theorem rowZ_at (LL : List (List Bool)) {n k : Nat} (i : Nat) (h : k < n) : (rowZ LL n k i)[k]? = some (packW LL k i) := by
  simp [rowZ, h]
theorem rowZ_set (LL : List (List Bool)) (n k i : Nat) : (rowZ LL n k i).set k (packW LL k (i + 1)) = rowZ LL n k (i + 1) := by
  apply List.ext_getElem
  · simp [rowZ]
  · intro j h1 h2
    rw [List.getElem_set]
    by_cases e : k = j
    · subst e; simp [rowZ]
    · rw [if_neg e]
      have e' : ¬ j = k := fun h => e h.symm
      simp [rowZ, e']
theorem packW_yes {LL : List (List Bool)} {k i : Nat} (h : (LL.getD i []).getD k false = true) : packW LL k (i + 1) = packW LL k i + 2 ^ i := by
  show packW LL k i + (if _ then _ else _) = _
  rw [if_pos h]
theorem packW_no {LL : List (List Bool)} {k i : Nat} (h : (LL.getD i []).getD k false = false) : packW LL k (i + 1) = packW LL k i := by
  show packW LL k i + (if _ then _ else _) = _
  rw [if_neg (by rw [h]; simp)]; rfl
theorem rowZ_keep {LL : List (List Bool)} {n k i : Nat} (h : packW LL k (i + 1) = packW LL k i) : rowZ LL n k i = rowZ LL n k (i + 1) := by
  unfold rowZ; rw [h]
theorem one_word (x : Int) : ∀ u ∈ ([.int .u64 x] : List Value), u.oneCell' = true := by
  intro u hu; simp at hu; subst hu; rfl
theorem row_grown {base t c n : Nat} {e : TypeId} {lv : Value} {xs ys : List Value} {w w1 w2 : World} {o : Obj} (hb : Below base w w1) (hs : base ≤ w1.heap.size) (hrow : w1.ownsRow base e 1 lv n xs)
    (_hown : w2.ownsRow base e 1 (.slice (some ⟨t, 0, none⟩) (n + 1) c) (n + 1) ys) (hg : (w1.alloc o).grownBy w2 lv.ownBlock) : Below base w w2 :=
  (hb.alloc hs o).grown hg (by simp; omega) (fun k hk => (hrow.lt k hk).1)
theorem own_some {w : World} {B n c : Nat} {e : TypeId} {a : Option Addr} {xs : List Value} (h : w.ownsRow B e 1 (.slice a n c) n xs) (hn : 0 < n) : ∃ g, a = some ⟨g, 0, none⟩ ∧ B ≤ g := by
  rcases h.2 with ⟨h1, h0⟩ | ⟨g, cap, cur, h1, hb, -⟩
  · omega
  · obtain ⟨rfl, -, -⟩ := Value.slice.inj h1
    exact ⟨g, rfl, hb⟩
def lenV : Value → Nat
  | .slice _ n _ => n
  | _ => 0
theorem GridB.at_ {w : World} {a : Option Addr} {n cap : Nat} {LL : List (List Bool)} (h : GridB w (.slice a n cap) LL) {k : Nat} (hk : k < n) : ∃ b off, a = some ⟨b, off, none⟩ ∧ b < w.heap.size ∧ ∃ ra rcap, w.cell? ⟨b, off + k, none⟩ = some (.slice ra (LL.getD k []).length rcap) ∧ rcap ≤ maxLen ∧ (LL.getD k []).length ≤ rcap ∧ KB w (.slice ra (LL.getD k []).length rcap) (LL.getD k []) := by
  obtain ⟨a', cap', hv, -, -, hc⟩ := h
  obtain ⟨rfl, rfl, rfl⟩ := Value.slice.inj hv
  obtain ⟨b, off, ha, hb, hcc⟩ := hc (by omega)
  obtain ⟨v, hv, hkb⟩ := hcc k hk
  obtain ⟨ra, rcap, rfl, r1, r2⟩ := hkb.form9
  exact ⟨b, off, ha, hb, ra, rcap, hv, r2, r1, hkb⟩
theorem getD_le {LL : List (List Bool)} {c : Nat} (h : ∀ l ∈ LL, l.length ≤ c) (k : Nat) : (LL.getD k []).length ≤ c := by
  by_cases hk : k < LL.length
  · have e : LL.getD k [] = LL[k] := by simp [List.getD, hk]
    rw [e]; exact h _ (List.getElem_mem hk)
  · simp only [List.getD]; rw [List.getElem?_eq_none (by omega)]; exact Nat.zero_le _
set_option maxRecDepth 100000 in
set_option maxHeartbeats 3200000 in
theorem refPack_any (v : Value) (LL : List (List Bool)) (w : World) (hv : GridB w v LL) (hl : ∀ l ∈ LL, l.length ≤ 1000) (hn : LL.length ≤ 1000) :
    Calls Try.prog 18 #[v] w fun e w' => ∃ u, e = .returned u ∧ Rd U w' u (packL LL) ∧ Below w.heap.size w w' := by
  obtain ⟨i0, hi, hz0, hz1, hz2⟩ := info_parts infoU
  have HV := Lib.hid hv
  have HLK := Lib.hid (getD_le hl)
  have HPN := Lib.hid (packN_le hl)
  obtain ⟨a, cap, rfl, l1, l2, -⟩ := hv
  unfold maxLen at l2
  obtain ⟨n, hnn⟩ : ∃ n, n = LL.length := ⟨_, rfl⟩
  obtain ⟨I, hI⟩ : ∃ I, I = packI LL := ⟨_, rfl⟩
  have hI2 : I = min n 64 := by rw [hI, hnn]; rfl
  have hIn : I ≤ n := by omega
  have hI64 : I ≤ 64 := by omega
  have hIe : ∀ k : Nat, ¬ k < I → ¬ (k < n ∧ k < 64) := fun k h => by omega
  have HIE := Lib.hid hIe
  rw [← hnn] at l1 hn HV ⊢
  have HNN := Lib.hid hnn
  have HI := Lib.hid hI
  have HB0 : Hid (Below w.heap.size w (w.alloc (.cells #[] 32))) := Lib.hid ((Below.refl _ _).alloc (Nat.le_refl _) _)
  have HR0 : Hid ((w.alloc (.cells #[] 32)).ownsRow w.heap.size 32 1 (.slice (some ⟨w.heap.size, 0, none⟩) 0 0) 0 (List.replicate 0 (U 0))) := Lib.hid (World.ownsRow_made _ #[] 0 (Nat.le_refl _) (by unfold maxLen; omega) rfl)
  clear hl hnn hI hI2 hIe
  go_enter Try.func18, Try.ntmps18
  go_wp2_with fail
  go_loopw [3, 4] (fun l i wr => ∃ (k j : Nat) (ja : Option Addr) (jc : Nat), k ≤ I ∧ i = .int .i64 k ∧ l = .slice ja j jc ∧ j ≤ 1000 ∧ Hid (j = packN LL k) ∧ Hid (wr.ownsRow w.heap.size 32 1 (.slice ja j jc) j (List.replicate j (U 0)) ∧ Below w.heap.size w wr)) (fun _ i _ => I - (intOf i).toNat)
  case atStart => exact ⟨0, 0, _, _, Nat.zero_le _, rfl, rfl, by omega, Lib.hid rfl, Lib.hid ⟨HR0.out, HB0.out⟩⟩
  case round =>
    clear HB0 HR0
    obtain ⟨k, j, ja, jc, hk, rfl, rfl, hj, HJ, HW⟩ := hrel
    obtain ⟨wo, rfl⟩ : ∃ wo : World, wo = wr := ⟨_, rfl⟩
    have hwz := HW.out.2.size
    by_cases hlt : k < I
    · have d1 : (k : Int) < (n : Int) := by omega
      have d2 : (k : Int) < 64 := by omega
      have d3 : 0 ≤ (k : Int) := by omega
      obtain ⟨b, off, rfl, hb, ra, rcap, hc, r1, r2, -⟩ := HV.out.at_ (show k < n by omega)
      unfold maxLen at r1
      have KC : Hid (∀ u, Below w.heap.size w u → u.cell? ⟨b, off + k, none⟩ = some (.slice ra (LL.getD k []).length rcap)) := Lib.hid (fun u hu => (hu.cell (p := ⟨b, off + k, none⟩) hb).trans hc)
      have hlk := HLK.out k
      have HST := Lib.hid (packN_step (LL := LL) (i := k) (by rw [← HNN.out]; omega))
      rw [← HJ.out] at HST
      obtain ⟨lk, hlke⟩ : ∃ lk, lk = (LL.getD k []).length := ⟨_, rfl⟩
      rw [← hlke] at KC hlk HST r2
      clear hlke hc hb
      go_wp2_with fail
      go_loopw [3] (fun l wr => ∃ (q : Nat) (qa : Option Addr) (qc : Nat), l = .slice qa q qc ∧ j ≤ q ∧ q ≤ max j lk ∧ Hid (wr.ownsRow w.heap.size 32 1 (.slice qa q qc) q (List.replicate q (U 0)) ∧ Below w.heap.size w wr)) (fun l _ => lk - lenV l)
      case atStart => exact ⟨j, _, _, rfl, Nat.le_refl _, by omega, HW⟩
      case round =>
        clear HW hwz
        obtain ⟨q, qa, qc, rfl, hq1, hq2, HW⟩ := hrel
        obtain ⟨wi, rfl⟩ : ∃ wi : World, wi = wr := ⟨_, rfl⟩
        have hwz := HW.out.2.size
        have hcell := KC.out wi HW.out.2
        by_cases hql : q < lk
        · have d4 : (q : Int) < (lk : Int) := by omega
          have HROW := Lib.hid (own_on HW.out.1 ((Below.refl _ wi).alloc (Nat.le_refl _) (.cells #[.int .u64 0] 32)))
          go_wp2_with (at_builtin; refine wpList_append_lies _ rfl (.tmp 27) (.tmp 28) 30 rfl w.heap.size 32 i0 (.int .u64 0) 1 8 Try.underlying30 hi hz0 hz1 hz2 rfl (by decide) (.slice qa q qc) q (List.replicate q (U 0)) rfl HROW.out ⟨wi.heap.size, 0, none⟩ 1 1 [.int .u64 0] rfl rfl (news1 _ _ _) (one_word _) (by omega) (by unfold maxLen; omega) (by omega) (by simp; omega) _ rfl ?_)
          intro t2 c2 w3 hown hgrow _ _
          have HE : Hid (w3.ownsRow w.heap.size 32 1 (.slice (some ⟨t2, 0, none⟩) (q + 1) c2) (q + 1) (List.replicate (q + 1) (U 0)) ∧ Below w.heap.size w w3) := Lib.hid ⟨by rw [List.replicate_succ']; exact hown, row_grown HW.out.2 hwz HW.out.1 hown hgrow⟩
          clear hown hgrow
          go_wp2_with fail
          go_roundw
          case rel => exact ⟨q + 1, _, _, rfl, by omega, by omega, HE⟩
          case measure => simp [lenV]; omega
        · have d4 : decide ((q : Int) < (lk : Int)) = false := by simp; omega
          have HJ2 : Hid (q = packN LL (k + 1)) := Lib.hid (by rw [HST.out]; omega)
          clear hcell
          have hcell := KC.out wi HW.out.2
          go_wp2_with fail
          go_roundw
          case rel => exact ⟨k + 1, q, qa, qc, by omega, by go_num, rfl, by omega, HJ2, HW⟩
          case measure => simp [intOf]; omega
    · obtain rfl : I = k := by omega
      have hke := HIE.out I hlt
      have HR : Hid (wo.ownsRow w.heap.size 32 1 (.slice ja j jc) j ((rowZ LL j 0 0).map U) ∧ Below w.heap.size w wo) := Lib.hid ⟨by rw [rowZ_zero, List.map_replicate]; exact HW.out.1, HW.out.2⟩
      clear HW hlt hk
      by_cases hkn : I < n
      rotate_left
      have hkd : decide ((I : Int) < (n : Int)) = false := by simp; omega
      have hkd2 : decide (I < n) = false := by simp; omega
      rotate_left
      have hkd : decide ((I : Int) < 64) = false := by simp; omega
      have hkd2 : (I : Int) < (n : Int) := by omega
      all_goals
        clear hke hkn
        go_wp2_with fail
        go_loopw [5] (fun x wr => ∃ k : Nat, k ≤ j ∧ x = .int .i64 k ∧ Hid (wr.ownsRow w.heap.size 32 1 (.slice ja j jc) j ((rowZ LL j k 0).map U) ∧ Below w.heap.size w wr)) (fun x _ => j - (intOf x).toNat)
        case atStart => exact ⟨0, Nat.zero_le _, rfl, HR⟩
        case round =>
          clear HR
          obtain ⟨k, hk, rfl, HW⟩ := hrel
          obtain ⟨wo, rfl⟩ : ∃ wo : World, wo = wr := ⟨_, rfl⟩
          by_cases hlt : k < j
          · obtain ⟨g, rfl, hg⟩ := own_some HW.out.1 (by omega)
            have HG := Lib.hid hg
            have d1 : (k : Int) < (j : Int) := by omega
            have d2 : 0 ≤ (k : Int) := by omega
            go_wp2_with fail
            go_loopw [6, 7] (fun p x wr => ∃ (q : Nat) (z : Int), q ≤ I ∧ x = .int .i64 q ∧ p = .int .u64 z ∧ Hid (q < 64 → z = ((2 ^ q : Nat) : Int)) ∧ Hid (wr.ownsRow w.heap.size 32 1 (.slice (some ⟨g, 0, none⟩) j jc) j ((rowZ LL j k q).map U) ∧ Below w.heap.size w wr)) (fun _ x _ => I - (intOf x).toNat)
            case atStart => exact ⟨0, 1, Nat.zero_le _, rfl, rfl, Lib.hid (fun _ => rfl), HW⟩
            case round =>
              clear HW
              obtain ⟨q, z, hq, rfl, rfl, HY, HW⟩ := hrel
              obtain ⟨wi, rfl⟩ : ∃ wi : World, wi = wr := ⟨_, rfl⟩
              by_cases hql : q < I
              · have d3 : (q : Int) < (n : Int) := by omega
                have d4 : (q : Int) < 64 := by omega
                have d5 : 0 ≤ (q : Int) := by omega
                obtain ⟨b, off, rfl, -, ra, rcap, hc, r1, r2, hkb⟩ := (HV.out.on HW.out.2).at_ (show q < n by omega)
                unfold maxLen at r1
                have hlk := HLK.out q
                have HKE := Lib.hid (fun h => rowZ_keep (LL := LL) (n := j) (k := k) (i := q) (packW_no h))
                have HSE := Lib.hid (fun h => packW_yes (LL := LL) (k := k) (i := q) h)
                have HRS := Lib.hid (rowZ_set LL j k q)
                obtain rfl : z = ((2 ^ q : Nat) : Int) := HY.out (by omega)
                obtain ⟨y, hy0⟩ : ∃ y : Nat, y = 2 ^ q := ⟨_, rfl⟩
                rw [← hy0] at HY ⊢
                have hxl := pack_lt LL k q
                have hq63 : 2 ^ q ≤ 2 ^ 63 := Nat.pow_le_pow_right (by omega) (show q ≤ 63 by omega)
                have e63 : (2 : Nat) ^ 63 = 9223372036854775808 := by decide
                rw [e63, ← hy0] at hq63
                rw [← hy0] at hxl HSE
                have hcl := HW.out.1.cellAt k (by omega)
                rw [List.getElem?_map, rowZ_at LL q hlt] at hcl
                have hfr := HW.out.1.frozenAt k
                have hY2 : q < 63 → y * 2 = 2 ^ (q + 1) := fun _ => by rw [Nat.pow_succ, hy0]
                have HY2 := Lib.hid hY2
                clear hY2 hy0 e63
                obtain ⟨x, hx⟩ : ∃ x, x = packW LL k q := ⟨_, rfl⟩
                have HX := Lib.hid hx
                rw [← hx] at hcl hxl
                have hcl : wi.cell? ⟨g, k, none⟩ = some (.int .u64 (x : Int)) := hcl
                have HNO : Hid (¬ k < (LL.getD q []).length → (LL.getD q []).getD k false = false) := Lib.hid (fun h => by generalize LL.getD q [] = l at h ⊢; simp only [List.getD]; rw [List.getElem?_eq_none (by omega)]; rfl)
                obtain ⟨lk, hlke⟩ : ∃ lk, lk = (LL.getD q []).length := ⟨_, rfl⟩
                rw [← hlke] at hc hlk hkb HNO r2
                have d8 : (x : Int) + (y : Int) < 18446744073709551616 := by omega
                clear hlke hx
                by_cases h63 : q < 63
                · have d9 : (y : Int) * 2 < 18446744073709551616 := by
                    have e := HY2.out h63
                    have e2 : 2 ^ (q + 1) ≤ 2 ^ 63 := Nat.pow_le_pow_right (by omega) (show q + 1 ≤ 63 by omega)
                    have e63 : (2 : Nat) ^ 63 = 9223372036854775808 := by decide
                    omega
                  have HYN : Hid (q + 1 < 64 → (y : Int) * 2 = ((2 ^ (q + 1) : Nat) : Int)) := Lib.hid (fun _ => by have e := HY2.out h63; omega)
                  clear h63 HY2 hq63 hxl HY
                  by_cases hkl : k < lk
                  · obtain ⟨rb, roff, rfl, -, eb⟩ := hkb.at_ hkl
                    have d6 : (k : Int) < (lk : Int) := by omega
                    obtain ⟨bit, hbit⟩ : ∃ bit, bit = (LL.getD q []).getD k false := ⟨_, rfl⟩
                    rw [← hbit] at eb
                    cases bit with
                    | true =>
                      have HS2 : Hid ((rowZ LL j k q).set k (x + y) = rowZ LL j k (q + 1)) := Lib.hid (by rw [← HRS.out, HSE.out hbit.symm, HX.out])
                      clear hbit hkl hkb HKE HSE HRS
                      have HE := HW
                      go_wp2_with fail
                      go_roundw
                      case rel =>
                        have s1 := (HE.out.1.stored k (U (x + y))).1
                        rw [← List.map_set, HS2.out] at s1
                        exact ⟨q + 1, (y : Int) * 2, by omega, by go_num, by go_num, HYN, Lib.hid ⟨s1, HE.out.2.setCell (p := ⟨g, k, none⟩) HG.out _⟩⟩
                      case measure => simp [intOf]; omega
                    | false =>
                      have HBIT := Lib.hid hbit.symm
                      clear hbit hkl hkb hcl hfr
                      have HE : Hid (wi.ownsRow w.heap.size 32 1 (.slice (some ⟨g, 0, none⟩) j jc) j ((rowZ LL j k (q + 1)).map U) ∧ Below w.heap.size w wi) := Lib.hid ⟨by rw [← HKE.out HBIT.out]; exact HW.out.1, HW.out.2⟩
                      clear HW HKE HSE HBIT HRS
                      go_wp2_with fail
                      go_roundw
                      case rel => exact ⟨q + 1, (y : Int) * 2, by omega, by go_num, by go_num, HYN, HE⟩
                      case measure => simp [intOf]; omega
                  · have d6 : decide ((k : Int) < (lk : Int)) = false := by simp; omega
                    have d7 : decide (k < lk) = false := by simp; omega
                    have HBIT : Hid ((LL.getD q []).getD k false = false) := Lib.hid (HNO.out hkl)
                    clear hkl hkb hcl hfr
                    have HE : Hid (wi.ownsRow w.heap.size 32 1 (.slice (some ⟨g, 0, none⟩) j jc) j ((rowZ LL j k (q + 1)).map U) ∧ Below w.heap.size w wi) := Lib.hid ⟨by rw [← HKE.out HBIT.out]; exact HW.out.1, HW.out.2⟩
                    clear HW HKE HSE HBIT HRS
                    go_wp2_with fail
                    go_roundw
                    case rel => exact ⟨q + 1, (y : Int) * 2, by omega, by go_num, by go_num, HYN, HE⟩
                    case measure => simp [intOf]; omega
                · have hq63e : q = 63 := by omega
                  have HYN : ∀ z : Int, Hid (q + 1 < 64 → z = ((2 ^ (q + 1) : Nat) : Int)) := fun z => Lib.hid (fun h => by omega)
                  clear h63 HY2 hxl HY hq63e
                  by_cases hkl : k < lk
                  · obtain ⟨rb, roff, rfl, -, eb⟩ := hkb.at_ hkl
                    have d6 : (k : Int) < (lk : Int) := by omega
                    obtain ⟨bit, hbit⟩ : ∃ bit, bit = (LL.getD q []).getD k false := ⟨_, rfl⟩
                    rw [← hbit] at eb
                    cases bit with
                    | true =>
                      have HS2 : Hid ((rowZ LL j k q).set k (x + y) = rowZ LL j k (q + 1)) := Lib.hid (by rw [← HRS.out, HSE.out hbit.symm, HX.out])
                      clear hbit hkl hkb HKE HSE HRS
                      have HE := HW
                      go_wp2_with fail
                      go_roundw
                      case rel =>
                        have s1 := (HE.out.1.stored k (U (x + y))).1
                        rw [← List.map_set, HS2.out] at s1
                        exact ⟨q + 1, _, by omega, by go_num, rfl, HYN _, Lib.hid ⟨s1, HE.out.2.setCell (p := ⟨g, k, none⟩) HG.out _⟩⟩
                      case measure => simp [intOf]; omega
                    | false =>
                      have HBIT := Lib.hid hbit.symm
                      clear hbit hkl hkb hcl hfr
                      have HE : Hid (wi.ownsRow w.heap.size 32 1 (.slice (some ⟨g, 0, none⟩) j jc) j ((rowZ LL j k (q + 1)).map U) ∧ Below w.heap.size w wi) := Lib.hid ⟨by rw [← HKE.out HBIT.out]; exact HW.out.1, HW.out.2⟩
                      clear HW HKE HSE HBIT HRS
                      go_wp2_with fail
                      go_roundw
                      case rel => exact ⟨q + 1, _, by omega, by go_num, rfl, HYN _, HE⟩
                      case measure => simp [intOf]; omega
                  · have d6 : decide ((k : Int) < (lk : Int)) = false := by simp; omega
                    have d7 : decide (k < lk) = false := by simp; omega
                    have HBIT : Hid ((LL.getD q []).getD k false = false) := Lib.hid (HNO.out hkl)
                    clear hkl hkb hcl hfr
                    have HE : Hid (wi.ownsRow w.heap.size 32 1 (.slice (some ⟨g, 0, none⟩) j jc) j ((rowZ LL j k (q + 1)).map U) ∧ Below w.heap.size w wi) := Lib.hid ⟨by rw [← HKE.out HBIT.out]; exact HW.out.1, HW.out.2⟩
                    clear HW HKE HSE HBIT HRS
                    go_wp2_with fail
                    go_roundw
                    case rel => exact ⟨q + 1, _, by omega, by go_num, rfl, HYN _, HE⟩
                    case measure => simp [intOf]; omega
              · obtain rfl : I = q := by omega
                have HE : Hid (wi.ownsRow w.heap.size 32 1 (.slice (some ⟨g, 0, none⟩) j jc) j ((rowZ LL j (k + 1) 0).map U) ∧ Below w.heap.size w wi) := Lib.hid ⟨by rw [← rowZ_next, ← HI.out]; exact HW.out.1, HW.out.2⟩
                clear hql hq
                go_wp2_with fail
                go_roundw
                case rel => exact ⟨k + 1, by omega, by go_num, HE⟩
                case measure => simp [intOf]; omega
          · obtain rfl : j = k := by omega
            have HE : Hid (Rd U wo (.slice ja j jc) (packL LL) ∧ Below w.heap.size w wo) := Lib.hid ⟨by
              have h := HW.out.1
              rw [HJ.out, HI.out, rowZ_all] at h
              have e : (packL LL).length = packN LL (packI LL) := packL_len LL
              rw [← e] at h
              rw [HJ.out, HI.out, ← e]
              exact rd_of_owned h, HW.out.2⟩
            clear hlt hk
            go_wp2_with fail
            go_ret
            exact ⟨_, rfl, HE.out⟩
end Go.Proofs.Ytemolhmkhjfehaa.aig
