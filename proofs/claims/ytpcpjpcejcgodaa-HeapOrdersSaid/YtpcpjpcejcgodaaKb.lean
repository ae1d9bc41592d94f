/- The walk of heap's example. -/
import Derived.Test.YtpcpjpcejcgodaaKa
namespace Go.Proofs.Ytpcpjpcejcgodaa.heap
open Go.Shelf Go.RowKit
open Go.Proofs.Ytpcpjpcejcgodaa.fns Go.Proofs.Ytpcpjpcejcgodaa.hpf Go.Proofs.Ytpcpjpcejcgodaa.ints

def one64 : Nat := 4607182418800017408
def nan64 : Nat := 9221120237041090561
def S3 : List Nat := [one64, nan64, one64]
theorem sort_three {α : Type} [Inhabited α] (lt : α → α → Bool) (d : Array α) : Sort.insertionSort lt d 0 3 = Sort.insInner lt 0 2 (Sort.insInner lt 0 1 d) := by
  unfold Sort.insertionSort
  rw [Sort.insOuter, if_pos (by omega), Sort.insOuter, if_pos (by omega), Sort.insOuter, if_neg (by omega)]
theorem sorted3 : ∀ a b c : Fin 3, a ≠ b → a ≠ c → b ≠ c → (Sort.insInner (ltOf (cmp3 S3)) 0 2 (Sort.insInner (ltOf (cmp3 S3)) 0 1 #[a, b, c])).toList = [0, 2, 1] := by decide +kernel
theorem list3 {T : List Nat} (h : T.length = 3) : ∃ a b c, T = [a, b, c] := by
  match T, h with
  | [a, b, c], _ => exact ⟨a, b, c, rfl⟩
theorem three {P T : List Nat} (hw : Wf 3 P T) (hl : T.length = 3) : ∃ D : Array (Fin 3), D.size = 3 ∧ D.toList.map enc3 = ncells T ∧ (Sort.insertionSort (ltOf (cmp3 S3)) D 0 3).toList.map enc3 = [(0 : Int), 2, 1].map (Value.int .i64) := by
  obtain ⟨a, b, c, rfl⟩ := list3 hl
  have ha := (hw.at_ 0 (by simp)).1
  have hb := (hw.at_ 1 (by simp)).1
  have hc := (hw.at_ 2 (by simp)).1
  have hab : a ≠ b := fun e => by have := hw.inj (i := 0) (k := 1) (by simp) (by simp) (by simpa using e); omega
  have hac : a ≠ c := fun e => by have := hw.inj (i := 0) (k := 2) (by simp) (by simp) (by simpa using e); omega
  have hbc : b ≠ c := fun e => by have := hw.inj (i := 1) (k := 2) (by simp) (by simp) (by simpa using e); omega
  have ha : a < 3 := by simpa using ha
  have hb : b < 3 := by simpa using hb
  have hc : c < 3 := by simpa using hc
  refine ⟨#[⟨a, ha⟩, ⟨b, hb⟩, ⟨c, hc⟩], rfl, rfl, ?_⟩
  rw [sort_three, sorted3 ⟨a, ha⟩ ⟨b, hb⟩ ⟨c, hc⟩ (fun e => hab (Fin.mk.inj e)) (fun e => hac (Fin.mk.inj e)) (fun e => hbc (Fin.mk.inj e))]
  rfl
theorem allW_zero (n : Nat) : AllW (List.replicate n 0) := by
  intro i
  unfold W64
  by_cases h : i < n <;> simp [List.getD, h]
theorem w_one : W64 one64 := by unfold W64 one64; omega
theorem w_nan : W64 nan64 := by unfold W64 nan64; omega
/-- a heap of three things in the midst of the example: nothing but what is told is known -/
def Mid (A B : Nat) (g s p m : Nat) (S : List Nat) (Q : List Nat → Prop) (w wx : World) : Prop :=
  ∃ tv P T, Hp A B wx g s p tv 3 S P T ∧ AllW S ∧ Hok 3 S P T ∧ T.length = m ∧ Q P ∧ Below A w wx
/-- which things are in it: a mark for each -/
def Ins (a b c : Bool) (P : List Nat) : Prop := ((P.getD 0 0 = 0) ↔ a = false) ∧ ((P.getD 1 0 = 0) ↔ b = false) ∧ ((P.getD 2 0 = 0) ↔ c = false)
theorem ins_same {a b c : Bool} {P P' : List Nat} (h : Ins a b c P) (hs : Same P P') : Ins a b c P' := ⟨(hs 0).trans h.1, (hs 1).trans h.2.1, (hs 2).trans h.2.2⟩
theorem set_step (A B g s p x b m : Nat) (S : List Nat) (Q : List Nat → Prop) (w wx : World) (hQ : ∀ P P', Q P → Same P P' → Q P') (h : Mid A B g s p m S Q w wx) (hx : x < 3) (hb : W64 b) (hm : m ≤ 3) :
    Calls Try.prog 7 #[.pointer (some ⟨g, 0, none⟩), .int .i64 (x : Int), .float .f64 b] wx fun e w' => e = .returned (.int .i64 0) ∧ Mid A B g s p m (S.set x b) Q w w' := by
  obtain ⟨tv, P, T, h1, h2, h3, h4, h5, h6⟩ := h
  refine (Set_any A B g s p 3 x b tv S P T wx h1 h2 hb h3 hx (by omega) (by omega)).mono ?_
  rintro e w' ⟨rfl, P', T', k1, k2, k3, k4, k5⟩
  exact ⟨rfl, tv, P', T', k1, allW_set h2 hb, k2, k4.trans h4, hQ _ _ h5 k3, h6.trans k5⟩
theorem push_step (A B g s p x m : Nat) (S : List Nat) (Q Q' : List Nat → Prop) (w wx : World) (h0 : ∀ P, Q P → P.getD x 0 = 0) (hQ : ∀ P P' k, Q P → P.length = 3 → Same (P.set x (k + 1)) P' → Q' P') (h : Mid A B g s p m S Q w wx) (hx : x < 3) (hm : m < 3) :
    Calls Try.prog 6 #[.pointer (some ⟨g, 0, none⟩), .int .i64 (x : Int)] wx fun e w' => e = .returned (.int .i64 0) ∧ Mid A B g s p (m + 1) S Q' w w' := by
  obtain ⟨tv, P, T, h1, h2, h3, h4, h5, h6⟩ := h
  refine (Push_any A B g s p 3 x tv S P T wx h1 h2 h3 hx (h0 P h5) (by omega) (by omega)).mono ?_
  rintro e w' ⟨rfl, tv', P', T', k1, k2, k3, k4, k5⟩
  exact ⟨rfl, tv', P', T', k1, h2, k2, by omega, hQ P P' T.length h5 h3.wf.len k4, h6.trans k5⟩
theorem set3 {P : List Nat} (h : P.length = 3) (x k y : Nat) (hx : x < 3) : (P.set x (k + 1)).getD y 0 = if y = x then k + 1 else P.getD y 0 := getD_set (by omega) _ _
theorem push1 (P P' : List Nat) (k : Nat) (h : Ins false false false P) (hl : P.length = 3) (hs : Same (P.set 1 (k + 1)) P') : Ins false true false P' := by
  refine ins_same ⟨?_, ?_, ?_⟩ hs <;> rw [set3 hl _ _ _ (by omega)]
  · exact h.1
  · simp
  · exact h.2.2
theorem push2 (P P' : List Nat) (k : Nat) (h : Ins false true false P) (hl : P.length = 3) (hs : Same (P.set 2 (k + 1)) P') : Ins false true true P' := by
  refine ins_same ⟨?_, ?_, ?_⟩ hs <;> rw [set3 hl _ _ _ (by omega)]
  · exact h.1
  · exact h.2.1
  · simp
theorem push0 (P P' : List Nat) (k : Nat) (h : Ins false true true P) (hl : P.length = 3) (hs : Same (P.set 0 (k + 1)) P') : Ins true true true P' := by
  refine ins_same ⟨?_, ?_, ?_⟩ hs <;> rw [set3 hl _ _ _ (by omega)]
  · simp
  · exact h.2.1
  · exact h.2.2
theorem new_step (w : World) : Calls Try.prog 5 #[.int .i64 3] w fun e w' => ∃ g s p B, e = .returned (.pointer (some ⟨g, 0, none⟩)) ∧ Mid w.heap.size B g s p 0 [0, 0, 0] (Ins false false false) w w' := by
  refine (New_any 3 w (by omega)).mono ?_
  rintro e w' ⟨g, s, p, B, rfl, h1, h2⟩
  exact ⟨g, s, p, B, rfl, _, _, _, h1, allW_zero 3, hok_nil 3 _, rfl, ⟨by simp, by simp, by simp⟩, h2⟩
theorem list_step (A B g s p : Nat) (Q : List Nat → Prop) (w wx : World) (h : Mid A B g s p 3 S3 Q w wx) :
    Calls Try.prog 15 #[.pointer (some ⟨g, 0, none⟩)] wx fun e w' => ∃ v, e = .returned v ∧ Ints w' v [0, 2, 1] ∧ Below wx.heap.size wx w' := by
  obtain ⟨tv, P, T, h1, h2, h3, h4, h5, h6⟩ := h
  obtain ⟨t, c, rfl⟩ := h1.form (by omega)
  obtain ⟨D, d1, d2, d3⟩ := three h3.wf h4
  refine (List3_any A B g s p t T.length c S3 P T D wx h1 h2 d1 d2 h4).mono ?_
  rintro e w' ⟨l, c', rfl, k1, k2⟩
  rw [d3] at k1
  exact ⟨_, rfl, ints_of_owned (B := wx.heap.size) k1, k2⟩
theorem lit_ints (w : World) (cs : List Int) (h : cs.length ≤ 100) : Ints (w.alloc (.cells (cs.map (Value.int .i64)).toArray 3)) (.slice (some ⟨w.heap.size, 0, none⟩) cs.length cs.length) cs := by
  have := World.ownsRow_lit (e := 3) (size := 1) w (cs.map (Value.int .i64)).toArray cs.length (Nat.zero_le _) (by unfold maxLen; omega) (by simp)
  exact ints_of_owned (B := 0) (by simpa using this)
set_option maxHeartbeats 1600000 in
theorem lives_any (w : World) : Calls Try.prog 13 #[] w fun e w' => e = .returned (.bool true) ∧ Below w.heap.size w w' := by
  have hs : ∀ a b c P P', Ins a b c P → Same P P' → Ins a b c P' := fun a b c P P' => ins_same
  have HS := Lib.hid hs
  clear hs
  go_enter Try.func13, Try.ntmps13
  go_wp2_with fail
  go_at_call 5; refine (new_step _).mono ?_; rintro e w1 ⟨g, s, p, B, rfl, h1⟩
  have H1 := Lib.hid h1
  clear h1
  go_wp2_with fail
  go_at_call 7; refine (set_step w.heap.size B g s p 0 one64 0 _ _ w w1 (HS.out _ _ _) H1.out (by omega) w_one (by omega)).mono ?_; rintro e w2 ⟨rfl, h2⟩
  have H2 := Lib.hid h2
  clear h2
  go_wp2_with fail
  go_at_call 23; refine (score.NaN_any _).mono ?_; rintro e w' ⟨rfl, rfl⟩
  go_wp2_with fail
  go_at_call 7; refine (set_step w.heap.size B g s p 1 nan64 0 _ _ w w2 (HS.out _ _ _) H2.out (by omega) w_nan (by omega)).mono ?_; rintro e w3 ⟨rfl, h3⟩
  have H3 := Lib.hid h3
  clear h3
  go_wp2_with fail
  go_at_call 7; refine (set_step w.heap.size B g s p 2 one64 0 _ _ w w3 (HS.out _ _ _) H3.out (by omega) w_one (by omega)).mono ?_; rintro e w4 ⟨rfl, h4⟩
  have H4 := Lib.hid h4
  clear h4
  go_wp2_with fail
  go_at_call 6; refine (push_step w.heap.size B g s p 1 0 _ _ _ w w4 (fun P h => h.2.1.2 rfl) push1 H4.out (by omega) (by omega)).mono ?_; rintro e w5 ⟨rfl, h5⟩
  have H5 := Lib.hid h5
  clear h5
  go_wp2_with fail
  go_at_call 6; refine (push_step w.heap.size B g s p 2 1 _ _ _ w w5 (fun P h => h.2.2.2 rfl) push2 H5.out (by omega) (by omega)).mono ?_; rintro e w6 ⟨rfl, h6⟩
  have H6 := Lib.hid h6
  clear h6
  go_wp2_with fail
  go_at_call 6; refine (push_step w.heap.size B g s p 0 2 _ _ _ w w6 (fun P h => h.1.2 rfl) push0 H6.out (by omega) (by omega)).mono ?_; rintro e w7 ⟨rfl, h7⟩
  have H7 : Hid (Mid w.heap.size B g s p 3 S3 (Ins true true true) w w7) := Lib.hid h7
  clear h7
  go_wp2_with fail
  go_at_call 15; refine (list_step w.heap.size B g s p _ w w7 H7.out).mono ?_; rintro e w8 ⟨v, rfl, hv, hb8⟩
  have HV := Lib.hid (hv.on ((Below.refl w8.heap.size w8).alloc (Nat.le_refl _) (.cells #[.int .i64 0, .int .i64 2, .int .i64 1] 3)))
  have HL := Lib.hid (lit_ints w8 [0, 2, 1] (by simp))
  have HB8 : Hid (Below w.heap.size w w8) := Lib.hid (by
    obtain ⟨_, _, _, _, _, _, _, _, k⟩ := H7.out
    exact k.trans (hb8.mono k.size))
  clear hv hb8
  go_wp2_with fail
  go_at_call 24; refine (refInts_same rfl HV.out HL.out).mono ?_; rintro e w9 ⟨rfl, hb9⟩
  have HB9 : Hid (Below w.heap.size w w9) := Lib.hid ((HB8.out.alloc HB8.out.size _).trans (hb9.mono (by have := HB8.out.size; simp; omega)))
  clear hb9
  go_wp2_with fail
  go_ret
  exact ⟨rfl, HB9.out⟩
end Go.Proofs.Ytpcpjpcejcgodaa.heap
