/- The walk of the document's writer of decimal digits. -/
import Derived.Test.YtjmiclgagjkooaaDoorProg
import Derived.Test.YtjmiclgagjkooaaDoorFnN
import Derived.WalkKit
import Derived.Handy
import Derived.Outline
import Derived.OwnWalk
import Derived.Lib.UnsafeStr
import Derived.Laws.IdiomStrings
import Derived.Laws.Concat
import Derived.Deep.RegionWith
import Derived.Lib.ItoaLen
namespace Go.Proofs.YtjmiclgagjkooaaDoor.oct
open Go.RowKit Go.PlainAid
open Go.Proofs.YtjmiclgagjkooaaDoor.fns

/-- a new row of one byte, read as a text -/
theorem one_text (wr : World) (k : Nat) (z : Int) (hk : k < 256) (hz : z = k) :
    (convert 52 9 (.slice (some ⟨wr.heap.size, 0, none⟩) 1 1)).run Tryd.prog (wr.alloc (.cells #[.int .u8 z] 5)) = .ok (.string ⟨#[UInt8.ofNat k]⟩) (wr.alloc (.cells #[.int .u8 z] 5)) :=
  run_convert_bytes_back (P := Tryd.prog) (wr.alloc (.cells #[.int .u8 z] 5)) 52 9 5 ⟨wr.heap.size, 0, none⟩ 1 [UInt8.ofNat k] Tryd.underlying52 Tryd.underlying5 Tryd.underlying9 (fun j hj => by
    simp at hj; subst hj
    simp only [Addr.add, List.getElem_cons_zero]
    rw [u8_nat hk, ← hz]
    simp)
theorem str_snoc (l : List UInt8) (b : UInt8) : ByteArray.mk l.toArray ++ ⟨#[b]⟩ = ⟨(l ++ [b]).toArray⟩ := by
  rw [ByteArray.mk_append_mk]


theorem one_text_at (W : World) (a : Addr) (k : Nat) (z : Int) (hk : k < 256) (hz : z = k) (hc : W.cell? a = some (.int .u8 z)) :
    (convert 52 9 (.slice (some a) 1 1)).run Tryd.prog W = .ok (.string ⟨#[UInt8.ofNat k]⟩) W :=
  run_convert_bytes_back (P := Tryd.prog) W 52 9 5 a 1 [UInt8.ofNat k] Tryd.underlying52 Tryd.underlying5 Tryd.underlying9 (fun j hj => by
    simp at hj; subst hj
    have e : a.add 0 = a := by simp [Addr.add]
    rw [e, hc, List.getElem_cons_zero, u8_nat hk, hz])

theorem one_text_drew (wr : World) (k : Nat) (z : Int) (hk : k < 256) (hz : z = k) :
    (convert 52 9 (.slice (some ⟨wr.heap.size, 0, none⟩) 1 1)).run Tryd.prog (wr.alloc (.cells #[.int .u8 z] 5)).drew = .ok (.string ⟨#[UInt8.ofNat k]⟩) (wr.alloc (.cells #[.int .u8 z] 5)).drew :=
  one_text_at _ _ k z hk hz (by simp)
theorem after_new {w w1 : World} {z : Value} (h : Below (w.alloc (.cells #[z] 5)).drew.heap.size (w.alloc (.cells #[z] 5)).drew w1) : w1.cell? ⟨w.heap.size, 0, none⟩ = some z :=
  (h.cell (p := ⟨w.heap.size, 0, none⟩) (by simp)).trans (by simp)

theorem dec_len (u : Nat) (h : (u : Int) ≤ 9223372036854775808) : (Lib.decDigits u).length ≤ 20 := by
  rw [Lib.decDigits_length]
  exact Lib.nDigits_le20 u (by omega)
theorem dec_big {u : Nat} (h : 10 ≤ u) : Lib.decDigits u = Lib.decDigits (u / 10) ++ [UInt8.ofNat (48 + u % 10)] := by
  rw [Lib.decDigits, dif_neg (by omega)]

theorem refDec_nat (u : Nat) : ∀ (w : World), (u : Int) ≤ 9223372036854775807 →
    Calls Tryd.prog 35 #[.int .i64 u] w fun e w' => e = .returned (.string ⟨(Lib.decDigits u).toArray⟩) ∧ Below w.heap.size w w' := by
  induction u using Nat.strongRecOn with
  | _ u ih =>
    intro w hu
    by_cases h : u < 10
    · have hcv := fun W => one_text W (48 + u) (48 + (u : Int)) (by omega) (by omega)
      have HE := Lib.hid (Lib.decDigits_one h)
      clear ih
      go_enter Tryd.func35, Tryd.ntmps35
      go_wp2_with fail
      go_ret
      exact ⟨by rw [HE.out, UInt8.ofNat_add]; rfl, (Below.refl _ _).alloc (Nat.le_refl _) _⟩
    · have h10 : 10 ≤ u := by omega
      have hcv := fun W => one_text W (48 + u % 10) (48 + (u : Int) % 10) (by omega) (by omega)
      have hl := dec_len (u / 10) (by omega)
      have hcvd := fun W => one_text_drew W (48 + u % 10) (48 + (u : Int) % 10) (by omega) (by omega)
      have HE := Lib.hid (dec_big h10)
      have IH : ∀ w, Calls Tryd.prog 35 #[.int .i64 ((u : Int) / 10)] w fun e w' => e = .returned (.string ⟨(Lib.decDigits (u / 10)).toArray⟩) ∧ Below w.heap.size w w' := fun w => by
        have h := ih (u / 10) (by omega) w (by omega)
        rw [show ((u / 10 : Nat) : Int) = (u : Int) / 10 by omega] at h
        exact h
      have HI := Lib.hid IH
      clear ih IH
      have e1 : IntKind.i64.wrap ((u : Int) / 10) = (u : Int) / 10 := IntWalk.i64_in _ (by omega)
      have e2 : (u : Int).tmod 10 = (u : Int) % 10 := Int.tmod_eq_emod_of_nonneg (by omega)
      have e3 : IntKind.i64.wrap (48 + (u : Int) % 10) = 48 + (u : Int) % 10 := IntWalk.i64_in _ (by omega)
      have e4 : IntKind.u8.wrap (48 + (u : Int) % 10) = 48 + (u : Int) % 10 := IntWalk.u8_in _ (by omega)
      have hk1 : 48 + u % 10 < 256 := by omega
      have hk2 : 48 + (u : Int) % 10 = ((48 + u % 10 : Nat) : Int) := by omega
      have HK := Lib.hid hk2
      clear hk2
      go_enter Tryd.func35, Tryd.ntmps35
      go_wp2_with fail
      go_region_with (go_at_call 35; refine (HI.out _).mono ?_; rintro e w1 ⟨rfl, hb⟩; try have hcv3 := one_text_at w1 ⟨w.heap.size, 0, none⟩ (48 + u % 10) (48 + (u : Int) % 10) hk1 HK.out (after_new hb))
      all_goals go_wp2_with fail
      all_goals (go_ret; refine ⟨by rw [str_snoc, HE.out, UInt8.ofNat_add]; rfl, ?_⟩)
      · exact (((Below.refl _ w).drew).trans hb).alloc (by have := hb.size; simpa using this) _
      · exact (((Below.refl _ w).alloc (Nat.le_refl _) _).drew).trans (hb.mono (by simp))
      · exact (((Below.refl _ w).alloc (Nat.le_refl _) _).drew).trans (hb.mono (by simp))

theorem refDec_neg (u : Nat) : ∀ (w : World), 1 ≤ u → (u : Int) ≤ 9223372036854775808 →
    Calls Tryd.prog 35 #[.int .i64 (-(u : Int))] w fun e w' => e = .returned (.string ⟨(45 :: Lib.decDigits u).toArray⟩) ∧ Below w.heap.size w w' := by
  induction u using Nat.strongRecOn with
  | _ u ih =>
    intro w hu1 hu
    have e0 : (-(u : Int)).tdiv 10 = -((u : Int) / 10) := by rw [Int.neg_tdiv, Int.tdiv_eq_ediv_of_nonneg (by omega)]
    have e2 : (-(u : Int)).tmod 10 = -((u : Int) % 10) := by rw [Int.neg_tmod, Int.tmod_eq_emod_of_nonneg (by omega)]
    by_cases h : u < 10
    · have hcv := fun W => one_text W (48 + u) (48 + (u : Int)) (by omega) (by omega)
      have HE := Lib.hid (Lib.decDigits_one h)
      clear ih
      go_enter Tryd.func35, Tryd.ntmps35
      go_wp2_with fail
      go_ret
      exact ⟨by rw [HE.out, UInt8.ofNat_add]; rfl, (Below.refl _ _).alloc (Nat.le_refl _) _⟩
    · have h10 : 10 ≤ u := by omega
      have hcv := fun W => one_text W (48 + u % 10) (48 + (u : Int) % 10) (by omega) (by omega)
      have hl := dec_len (u / 10) (by omega)
      have hcvd := fun W => one_text_drew W (48 + u % 10) (48 + (u : Int) % 10) (by omega) (by omega)
      have HE := Lib.hid (dec_big h10)
      have IH : ∀ w, Calls Tryd.prog 35 #[.int .i64 (-((u : Int) / 10))] w fun e w' => e = .returned (.string ⟨(45 :: Lib.decDigits (u / 10)).toArray⟩) ∧ Below w.heap.size w w' := fun w => by
        have h := ih (u / 10) (by omega) w (by omega) (by omega)
        rw [show ((u / 10 : Nat) : Int) = (u : Int) / 10 by omega] at h
        exact h
      have HI := Lib.hid IH
      clear ih IH
      have e1 : IntKind.i64.wrap (-((u : Int) / 10)) = -((u : Int) / 10) := IntWalk.i64_in _ (by omega)
      have e3 : IntKind.i64.wrap (48 + (u : Int) % 10) = 48 + (u : Int) % 10 := IntWalk.i64_in _ (by omega)
      have e4 : IntKind.u8.wrap (48 + (u : Int) % 10) = 48 + (u : Int) % 10 := IntWalk.u8_in _ (by omega)
      have hk1 : 48 + u % 10 < 256 := by omega
      have hk2 : 48 + (u : Int) % 10 = ((48 + u % 10 : Nat) : Int) := by omega
      have HK := Lib.hid hk2
      have hc7 : (-((u : Int) / 10) == 0) = false := by simp; omega
      clear hk2
      go_enter Tryd.func35, Tryd.ntmps35
      go_wp2_with fail
      go_region_with (go_at_call 35; refine (HI.out _).mono ?_; rintro e w1 ⟨rfl, hb⟩; try have hcv3 := one_text_at w1 ⟨w.heap.size, 0, none⟩ (48 + u % 10) (48 + (u : Int) % 10) hk1 HK.out (after_new hb))
      all_goals go_wp2_with fail
      all_goals (go_ret; refine ⟨by rw [str_snoc, HE.out, UInt8.ofNat_add]; rfl, ?_⟩)
      · exact (((Below.refl _ w).drew).trans hb).alloc (by have := hb.size; simpa using this) _
      · exact (((Below.refl _ w).alloc (Nat.le_refl _) _).drew).trans (hb.mono (by simp))
      · exact (((Below.refl _ w).alloc (Nat.le_refl _) _).drew).trans (hb.mono (by simp))

theorem refDec_any (n : Int) (w : World) (h0 : -9223372036854775808 ≤ n) (h1 : n ≤ 9223372036854775807) :
    Calls Tryd.prog 35 #[.int .i64 n] w fun e w' => e = .returned (.string ⟨(Lib.itoa n).toArray⟩) ∧ Below w.heap.size w w' := by
  by_cases h : n < 0
  · obtain ⟨u, rfl⟩ : ∃ u : Nat, n = -(u : Int) := ⟨n.natAbs, by omega⟩
    have e : Lib.itoa (-(u : Int)) = 45 :: Lib.decDigits u := by unfold Lib.itoa; rw [if_pos h]; congr 2; omega
    rw [e]
    exact refDec_neg u w (by omega) (by omega)
  · obtain ⟨u, rfl⟩ : ∃ u : Nat, n = (u : Int) := ⟨n.toNat, by omega⟩
    have e : Lib.itoa (u : Int) = Lib.decDigits u := by unfold Lib.itoa; rw [if_neg h]; congr 1
    rw [e]
    exact refDec_nat u w (by omega)

end Go.Proofs.YtjmiclgagjkooaaDoor.oct
