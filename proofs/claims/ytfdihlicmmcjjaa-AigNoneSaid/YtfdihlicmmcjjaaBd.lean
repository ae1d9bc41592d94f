/- The walk of the statement on a nil store. -/
import Derived.Test.YtfdihlicmmcjjaaBc
namespace Go.Proofs.Ytfdihlicmmcjjaa.aig
open Go.RowKit
open Go.Proofs.Ytfdihlicmmcjjaa.mem Go.Proofs.Ytfdihlicmmcjjaa.agf

/-- what a nil store tells -/
structure NilOk : Prop where
  input : ∀ w : World, Calls Try.prog 20 #[.pointer none] w fun e w' => e = .returned (.int .i64 (-1)) ∧ Below w.heap.size w w'
  and_ : ∀ (a b : Int) (w : World), Calls Try.prog 30 #[.pointer none, .int .i64 a, .int .i64 b] w fun e w' => e = .returned (.int .i64 (-1)) ∧ Below w.heap.size w w'
  or_ : ∀ (a b : Int) (w : World), In64 a → In64 b → Calls Try.prog 25 #[.pointer none, .int .i64 a, .int .i64 b] w fun e w' => e = .returned (.int .i64 (-1)) ∧ Below w.heap.size w w'
  xor : ∀ (a b : Int) (w : World), In64 a → In64 b → Calls Try.prog 26 #[.pointer none, .int .i64 a, .int .i64 b] w fun e w' => e = .returned (.int .i64 (-1)) ∧ Below w.heap.size w w'
  mux : ∀ (a b c : Int) (w : World), In64 a → In64 b → In64 c → Calls Try.prog 27 #[.pointer none, .int .i64 a, .int .i64 b, .int .i64 c] w fun e w' => e = .returned (.int .i64 (-1)) ∧ Below w.heap.size w w'
  all : ∀ (v : Value) (zs : List Int) (w : World), KInts (fun _ => False) w v zs → zs.length ≤ 1000 → Calls Try.prog 31 #[.pointer none, v] w fun e w' => e = .returned (.int .i64 (-1)) ∧ Below w.heap.size w w'
  copy : ∀ (nv v : Value) (ns : List (Int × Int)) (zs : List Int) (w : World), KNds (fun _ => False) w nv ns → GoodN ns → ns.length ≤ 1000 → KInts (fun _ => False) w v zs → zs.length ≤ 1000 →
    Calls Try.prog 24 #[.pointer none, nv, v] w fun e w' => ∃ x c, e = .returned (.slice x 0 c) ∧ Below w.heap.size w w'
  net : ∀ w : World, Calls Try.prog 23 #[.pointer none] w fun e w' => ∃ x c, e = .returned (.slice x 0 c) ∧ Below w.heap.size w w'
  len : ∀ w : World, Calls Try.prog 22 #[.pointer none] w fun e w' => e = .returned (.int .i64 0) ∧ Below w.heap.size w w'
  clone : ∀ w : World, Calls Try.prog 19 #[.pointer none] w fun e w' => e = .returned (.pointer none) ∧ Below w.heap.size w w'
theorem kints_one (w : World) (x : Int) (t : TypeId) : KInts (fun _ => False) (w.alloc (.cells #[.int .i64 x] t)) (.slice (some ⟨w.heap.size, 0, none⟩) 1 1) [x] := by
  refine ⟨some ⟨w.heap.size, 0, none⟩, 1, rfl, by simp, by unfold maxLen; omega, fun _ => ⟨w.heap.size, 0, rfl, by simp, fun e => e, fun i hi => ?_⟩⟩
  obtain rfl : i = 0 := by simpa using hi
  simp
set_option maxRecDepth 100000 in
set_option maxHeartbeats 6400000 in
theorem none_any (J : Proj) (C : NilOk) (a b : Int) (v : Value) (ns : List (Int × Int)) (W : World) (hv : KNds (New W) W v ns) (ha : In64 a) (hb : In64 b) :
    Calls Try.prog 7 #[.int .i64 a, .int .i64 b, v] W fun e w' => e = .returned (.bool true) ∧ Below W.heap.size W w' := by
  have HV := Lib.hid hv
  have HA := Lib.hid ha
  have HB := Lib.hid hb
  clear hv ha hb
  go_enter Try.func7, Try.ntmps7
  go_wp2_with fail
  go_at_call 18; refine (Small_any _ v ns W HV.out).mono ?_; rintro e w2 ⟨rfl, rfl⟩
  by_cases g2 : (decide (ns.length ≤ 60) && okB ns) = true
  · rw [g2]
    have HK : Hid (KNds (New W) W v ns ∧ GoodN ns ∧ ns.length ≤ 60) := Lib.hid (by
      rw [Bool.and_eq_true] at g2
      exact ⟨HV.out, okB_good g2.2, by simpa using g2.1⟩)
    clear g2
    go_wp2_with fail
    go_at_call 20; refine (C.input _).mono ?_; rintro e w1 ⟨rfl, bb⟩
    have H1 := Lib.hid bb
    clear bb
    go_wp2_with fail
    go_at_call 30; refine (C.and_ a b _).mono ?_; rintro e w2 ⟨rfl, bb⟩
    have H2 := Lib.hid (H1.out.trans (bb.mono H1.out.size))
    clear bb
    go_wp2_with fail
    go_at_call 25; refine (C.or_ a b _ HA.out HB.out).mono ?_; rintro e w3 ⟨rfl, bb⟩
    have H3 := Lib.hid (H2.out.trans (bb.mono H2.out.size))
    clear bb
    go_wp2_with fail
    go_at_call 26; refine (C.xor a b _ HA.out HB.out).mono ?_; rintro e w4 ⟨rfl, bb⟩
    have H4 := Lib.hid (H3.out.trans (bb.mono H3.out.size))
    clear bb
    go_wp2_with fail
    go_at_call 27; refine (C.mux a b a _ HA.out HB.out HA.out).mono ?_; rintro e w5 ⟨rfl, bb⟩
    have H5 := Lib.hid (H4.out.trans (bb.mono H4.out.size))
    clear bb
    go_wp2_with fail
    go_at_call 31; refine (C.all _ [a] _ (kints_one _ _ _) (by simp)).mono ?_; rintro e w6 ⟨rfl, bb⟩
    have H6 := Lib.hid ((H5.out.alloc H5.out.size _).trans (bb.mono (H5.out.alloc H5.out.size _).size))
    clear bb
    go_wp2_with fail
    go_at_call 24; refine (C.copy _ _ ns [b] _ (knds_any HK.out.1 (H6.out.alloc H6.out.size _)) HK.out.2.1 (by have := HK.out.2.2; omega) (kints_one _ _ _) (by simp)).mono ?_; rintro e w7 ⟨x7, c7, rfl, bb⟩
    have H7 := Lib.hid ((H6.out.alloc H6.out.size _).trans (bb.mono (H6.out.alloc H6.out.size _).size))
    clear bb
    go_wp2_with fail
    go_at_call 23; refine (C.net _).mono ?_; rintro e w8 ⟨x8, c8, rfl, bb⟩
    have H8 := Lib.hid (H7.out.trans (bb.mono H7.out.size))
    clear bb
    go_wp2_with fail
    go_at_call 22; refine (C.len _).mono ?_; rintro e w9 ⟨rfl, bb⟩
    have H9 := Lib.hid (H8.out.trans (bb.mono H8.out.size))
    clear bb
    go_wp2_with fail
    go_at_call 19; refine (C.clone _).mono ?_; rintro e w10 ⟨rfl, bb⟩
    have H10 := Lib.hid (H9.out.trans (bb.mono H9.out.size))
    clear bb
    go_wp2_with fail
    go_at_call 16; refine (lives_any J _).mono ?_; rintro e w11 ⟨rfl, bb⟩
    have H11 := Lib.hid (H10.out.trans (bb.mono H10.out.size))
    clear bb
    go_wp2_with fail
    go_ret
    exact ⟨rfl, H11.out⟩
  · rw [Bool.not_eq_true] at g2
    rw [g2]
    have HK : Hid (KNds (New W) W (.slice none 0 0) [] ∧ GoodN [] ∧ ([] : List (Int × Int)).length ≤ 60) := Lib.hid ⟨⟨none, 0, rfl, Nat.le_refl _, by unfold maxLen; omega, fun h => by simp at h⟩, fun i hi => by simp at hi, by simp⟩
    clear g2
    go_wp2_with fail
    go_at_call 20; refine (C.input _).mono ?_; rintro e w1 ⟨rfl, bb⟩
    have H1 := Lib.hid bb
    clear bb
    go_wp2_with fail
    go_at_call 30; refine (C.and_ a b _).mono ?_; rintro e w2 ⟨rfl, bb⟩
    have H2 := Lib.hid (H1.out.trans (bb.mono H1.out.size))
    clear bb
    go_wp2_with fail
    go_at_call 25; refine (C.or_ a b _ HA.out HB.out).mono ?_; rintro e w3 ⟨rfl, bb⟩
    have H3 := Lib.hid (H2.out.trans (bb.mono H2.out.size))
    clear bb
    go_wp2_with fail
    go_at_call 26; refine (C.xor a b _ HA.out HB.out).mono ?_; rintro e w4 ⟨rfl, bb⟩
    have H4 := Lib.hid (H3.out.trans (bb.mono H3.out.size))
    clear bb
    go_wp2_with fail
    go_at_call 27; refine (C.mux a b a _ HA.out HB.out HA.out).mono ?_; rintro e w5 ⟨rfl, bb⟩
    have H5 := Lib.hid (H4.out.trans (bb.mono H4.out.size))
    clear bb
    go_wp2_with fail
    go_at_call 31; refine (C.all _ [a] _ (kints_one _ _ _) (by simp)).mono ?_; rintro e w6 ⟨rfl, bb⟩
    have H6 := Lib.hid ((H5.out.alloc H5.out.size _).trans (bb.mono (H5.out.alloc H5.out.size _).size))
    clear bb
    go_wp2_with fail
    go_at_call 24; refine (C.copy _ _ [] [b] _ (knds_any HK.out.1 (H6.out.alloc H6.out.size _)) HK.out.2.1 (by have := HK.out.2.2; omega) (kints_one _ _ _) (by simp)).mono ?_; rintro e w7 ⟨x7, c7, rfl, bb⟩
    have H7 := Lib.hid ((H6.out.alloc H6.out.size _).trans (bb.mono (H6.out.alloc H6.out.size _).size))
    clear bb
    go_wp2_with fail
    go_at_call 23; refine (C.net _).mono ?_; rintro e w8 ⟨x8, c8, rfl, bb⟩
    have H8 := Lib.hid (H7.out.trans (bb.mono H7.out.size))
    clear bb
    go_wp2_with fail
    go_at_call 22; refine (C.len _).mono ?_; rintro e w9 ⟨rfl, bb⟩
    have H9 := Lib.hid (H8.out.trans (bb.mono H8.out.size))
    clear bb
    go_wp2_with fail
    go_at_call 19; refine (C.clone _).mono ?_; rintro e w10 ⟨rfl, bb⟩
    have H10 := Lib.hid (H9.out.trans (bb.mono H9.out.size))
    clear bb
    go_wp2_with fail
    go_at_call 16; refine (lives_any J _).mono ?_; rintro e w11 ⟨rfl, bb⟩
    have H11 := Lib.hid (H10.out.trans (bb.mono H10.out.size))
    clear bb
    go_wp2_with fail
    go_ret
    exact ⟨rfl, H11.out⟩
end Go.Proofs.Ytfdihlicmmcjjaa.aig
