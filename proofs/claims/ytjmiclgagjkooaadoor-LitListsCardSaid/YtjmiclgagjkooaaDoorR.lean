/- The walks of lit's Text and Read, and of the document's. -/
import Derived.Test.YtjmiclgagjkooaaDoorV
import Derived.Test.YtjmiclgagjkooaaDoorRd
import Derived.Test.YtjmiclgagjkooaaDoorDr
import Derived.Test.YtjmiclgagjkooaaDoorDc
import Derived.Test.YtjmiclgagjkooaaDoorFnR
namespace Go.Proofs.YtjmiclgagjkooaaDoor.lits
open Go.RowKit Go.PlainAid
open Go.Proofs.YtjmiclgagjkooaaDoor.fns
open Go.Proofs.YtjmiclgagjkooaaDoor.oct

theorem retS {a b : ByteArray} (h : a = b) : Ending.returned (.string a) = .returned (.string b) := by rw [h]
/-- a literal and an error, as Go hands them back -/
def twoR (r : Int × Int) : Value := .tuple #[.int .i64 r.1, .int .i64 r.2]
theorem twoR_ret {a b : Int} {r : Int × Int} (h : r = (a, b)) : Ending.returned (.tuple #[.int .i64 a, .int .i64 b]) = .returned (twoR r) := by subst h; rfl
theorem itoa_of {n : Int} (h : 0 ≤ n) : Lib.itoa n = Lib.decDigits n.toNat := by
  obtain ⟨u, rfl⟩ : ∃ u : Nat, n = u := ⟨n.toNat, by omega⟩
  rw [Lib.itoa_nonneg]; rfl
theorem str_cons (c : UInt8) (l : List UInt8) : ByteArray.mk #[c] ++ ⟨l.toArray⟩ = ⟨(c :: l).toArray⟩ := by
  rw [ByteArray.mk_append_mk]; simp

theorem Neg_of {l : Int} {b : Bool} (h : litNeg l = b) (w : World) : Calls Tryd.prog 14 #[.int .i64 l] w fun e w' => e = .returned (.bool b) ∧ w = w' := by
  have := Neg_any l w; rw [h] at this; exact this
theorem Dec_of {n : Int} (h0 : 0 ≤ n) (h1 : n ≤ 16777216) (w : World) (hT : Tab w) :
    Calls Tryd.prog 34 #[.int .i64 n] w fun e w' => e = .returned (.string ⟨(Lib.decDigits n.toNat).toArray⟩) ∧ Below w.heap.size w w' := by
  have := dec_any n w (by omega) (by omega) hT; rw [itoa_of h0] at this; exact this
theorem refDec_of {n : Int} (h0 : 0 ≤ n) (h1 : n ≤ 16777216) (w : World) :
    Calls Tryd.prog 35 #[.int .i64 n] w fun e w' => e = .returned (.string ⟨(Lib.decDigits n.toNat).toArray⟩) ∧ Below w.heap.size w w' := by
  have := refDec_any n w (by omega) (by omega); rw [itoa_of h0] at this; exact this
theorem Var_of {l : Int} (h : goodB l = true) (w : World) : Calls Tryd.prog 10 #[.int .i64 l] w fun e w' => e = .returned (.int .i64 (l / 2)) ∧ w = w' := by
  have := Var_any l w; rw [var_yes h] at this; exact this

theorem len8 {l : Int} (h0 : 0 ≤ l) (h1 : l ≤ 33554433) : (Lib.decDigits (l / 2).toNat).length ≤ 8 := dec_len9 _ (by omega)

theorem Text_any (l : Int) (w : World) (hT : Tab w) : Calls Tryd.prog 25 #[.int .i64 l] w fun e w' => e = .returned (.string (textB l)) ∧ Below w.heap.size w w' := by
  cases h : goodB l with
  | false =>
    have HR := Lib.hid (text_no h)
    have HG := Lib.hid h
    clear h
    go_enter Tryd.func25, Tryd.ntmps25
    go_wp2_with fail
    go_at_call 8; refine (Good_no HG.out _).mono ?_; rintro e w' ⟨rfl, rfl⟩
    go_wp2_with fail
    go_ret
    exact ⟨retS (by unfold textB; rw [HR.out]), Below.refl _ _⟩
  | true =>
    have HG := Lib.hid h
    obtain ⟨h0, h1⟩ := good_iff.1 h
    have hl := len8 h0 h1
    by_cases h2 : l % 2 = 1
    · have HR := Lib.hid (text_odd h h2)
      have HN := Lib.hid (neg_odd h h2)
      clear h h2
      go_enter Tryd.func25, Tryd.ntmps25
      go_wp2_with fail
      go_at_call 8; refine (Good_yes HG.out _).mono ?_; rintro e w' ⟨rfl, rfl⟩
      go_wp2_with fail
      go_at_call 14; refine (Neg_of HN.out _).mono ?_; rintro e w' ⟨rfl, rfl⟩
      go_wp2_with fail
      go_at_call 10; refine (Var_of HG.out _).mono ?_; rintro e w' ⟨rfl, rfl⟩
      go_wp2_with fail
      go_at_call 34; refine (Dec_of (by omega) (by omega) _ hT).mono ?_; rintro e w1 ⟨rfl, hb⟩
      go_wp2_with fail
      go_ret
      exact ⟨retS (by rw [str_cons]; unfold textB; rw [HR.out]), hb⟩
    · have HR := Lib.hid (text_even h (by omega))
      have HN := Lib.hid (neg_even h (by omega))
      clear h h2
      go_enter Tryd.func25, Tryd.ntmps25
      go_wp2_with fail
      go_at_call 8; refine (Good_yes HG.out _).mono ?_; rintro e w' ⟨rfl, rfl⟩
      go_wp2_with fail
      go_at_call 14; refine (Neg_of HN.out _).mono ?_; rintro e w' ⟨rfl, rfl⟩
      go_wp2_with fail
      go_at_call 10; refine (Var_of HG.out _).mono ?_; rintro e w' ⟨rfl, rfl⟩
      go_wp2_with fail
      go_at_call 34; refine (Dec_of (by omega) (by omega) _ hT).mono ?_; rintro e w1 ⟨rfl, hb⟩
      go_wp2_with fail
      go_ret
      exact ⟨retS (by unfold textB; rw [HR.out]), hb⟩

theorem refText_any (l : Int) (w : World) : Calls Tryd.prog 26 #[.int .i64 l] w fun e w' => e = .returned (.string (textB l)) ∧ Below w.heap.size w w' := by
  cases h : goodB l with
  | false =>
    have HR := Lib.hid (text_no h)
    have HG := Lib.hid h
    clear h
    go_enter Tryd.func26, Tryd.ntmps26
    go_wp2_with fail
    go_at_call 9; refine (refGood_no HG.out _).mono ?_; rintro e w' ⟨rfl, rfl⟩
    go_wp2_with fail
    go_ret
    exact ⟨retS (by unfold textB; rw [HR.out]), Below.refl _ _⟩
  | true =>
    have HG := Lib.hid h
    obtain ⟨h0, h1⟩ := good_iff.1 h
    have hl := len8 h0 h1
    by_cases h2 : l % 2 = 1
    · have HR := Lib.hid (text_odd h h2)
      have c : (l % 2 == 1) = true := by simp [h2]
      clear h h2
      go_enter Tryd.func26, Tryd.ntmps26
      go_wp2_with fail
      go_at_call 9; refine (refGood_yes HG.out _).mono ?_; rintro e w' ⟨rfl, rfl⟩
      go_wp2_with fail
      go_at_call 35; refine (refDec_of (by omega) (by omega) _).mono ?_; rintro e w1 ⟨rfl, hb⟩
      go_wp2_with fail
      go_ret
      exact ⟨retS (by rw [str_cons]; unfold textB; rw [HR.out]), hb⟩
    · have HR := Lib.hid (text_even h (by omega))
      have c : (l % 2 == 1) = false := by simp [h2]
      clear h h2
      go_enter Tryd.func26, Tryd.ntmps26
      go_wp2_with fail
      go_at_call 9; refine (refGood_yes HG.out _).mono ?_; rintro e w' ⟨rfl, rfl⟩
      go_wp2_with fail
      go_at_call 35; refine (refDec_of (by omega) (by omega) _).mono ?_; rintro e w1 ⟨rfl, hb⟩
      go_wp2_with fail
      go_ret
      exact ⟨retS (by unfold textB; rw [HR.out]), hb⟩

theorem cut_any (s : ByteArray) (w : World) : Calls Tryd.prog 31 #[.string s, .string ⟨#[33]⟩] w fun e w' => e = .returned (.tuple #[.string (rest s), .bool (bang s)]) ∧ w = w' := by
  refine (Tryd.strings_CutPrefix s ⟨#[33]⟩ w).mono fun e w' ⟨he, hw⟩ => ⟨?_, hw.symm⟩
  rw [he]
  cases hb : bang s with
  | true =>
    have hd := rest_data hb
    have h1 : Lib.hasPrefix s.data.toList [33] = true := by rw [hd]; rfl
    have h2 : Lib.trimPrefix s.data.toList [33] = (rest s).data.toList := by rw [hd]; rfl
    show Ending.returned (.tuple #[.string ⟨(Lib.trimPrefix s.data.toList [33]).toArray⟩, .bool (Lib.hasPrefix s.data.toList [33])]) = _
    rw [h1, h2]
  | false =>
    have h1 : Lib.hasPrefix s.data.toList [33] = false := by
      cases hp : Lib.hasPrefix s.data.toList [33] with
      | false => rfl
      | true =>
        cases hl : s.data.toList with
        | nil => rw [hl] at hp; simp [Lib.hasPrefix] at hp
        | cons x xs =>
          rw [hl] at hp
          have hx : x = 33 := by simp [Lib.hasPrefix] at hp; exact hp.symm
          have h3 := bt_list (s := s) (k := 0) (b := x) (by rw [hl]; rfl)
          have h4 : 0 < s.size := by rw [← len_size, hl]; simp
          rw [bang_yes h4 (by rw [h3, hx]; rfl)] at hb
          cases hb
    have h2 : Lib.trimPrefix s.data.toList [33] = s.data.toList := by unfold Lib.trimPrefix; rw [h1]; rfl
    show Ending.returned (.tuple #[.string ⟨(Lib.trimPrefix s.data.toList [33]).toArray⟩, .bool (Lib.hasPrefix s.data.toList [33])]) = _
    rw [h1, h2, rest_no hb]

theorem Nat_of {t : ByteArray} {n a e : Int} (h : natAt t 0 = (n, a, e)) (w : World) (hs : t.size ≤ maxLen) :
    Calls Tryd.prog 32 #[.string t, .int .i64 0] w fun r w' => r = .returned (.tuple #[.int .i64 n, .int .i64 a, .int .i64 e]) ∧ w = w' := by
  have := nat_any t 0 w hs; rw [h] at this; exact this
theorem refNat_of {t : ByteArray} {n a e : Int} (h : natAt t 0 = (n, a, e)) (w : World) (hs : t.size ≤ maxLen) :
    Calls Tryd.prog 33 #[.string t, .int .i64 0] w fun r w' => r = .returned (.tuple #[.int .i64 n, .int .i64 a, .int .i64 e]) ∧ w = w' := by
  have := refNat_any t 0 w hs; rw [h] at this; exact this
theorem readR_no {n a e z : Int} {b : Bool} (h : ¬ (e = 0 ∧ a = z ∧ n ≤ 16777216)) : readR (n, a, e) z b = (0, 2) := by unfold readR; rw [if_neg h]
theorem readR_yes {n a e z : Int} {b : Bool} (h0 : e = 0) (h1 : a = z) (h2 : n ≤ 16777216) : readR (n, a, e) z b = (litOf n b, 0) := by unfold readR; rw [if_pos ⟨h0, h1, h2⟩]
theorem Good_bad {n : Int} {b : Bool} (h : 16777216 < n) : goodB (litOf n b) = false := by rw [of_bad (.inr h)]; rfl
theorem Good_of {n : Int} {b : Bool} (h0 : 0 ≤ n) (h : n ≤ 16777216) : goodB (litOf n b) = true := by
  cases b with
  | true => rw [of_neg h0 h]; exact good_yes (by omega) (by omega)
  | false => rw [of_pos h0 h]; exact good_yes (by omega) (by omega)

theorem Read_any (s : ByteArray) (w : World) (hs : s.size ≤ maxLen) : Calls Tryd.prog 23 #[.string s] w fun e w' => e = .returned (twoR (readS s)) ∧ w = w' := by
  have hr : (rest s).size ≤ maxLen := Nat.le_trans (rest_le s) hs
  obtain ⟨r, hN⟩ : ∃ r, natAt (rest s) 0 = r := ⟨_, rfl⟩
  have h0 : 0 ≤ r.1 := by rw [← hN]; exact natAt_nonneg _
  obtain ⟨n, a, e⟩ := r
  have HS : Hid (readS s = readR (n, a, e) (rest s).size (bang s)) := Lib.hid (by unfold readS; rw [hN])
  have HN := Lib.hid hN
  have h0' : 0 ≤ n := h0
  clear hN h0
  have hr' := hr
  unfold maxLen at hr'
  clear hs
  by_cases he : e = 0
  · have c1 : (e == 0) = true := by simp [he]
    have c1' : (e != 0) = false := by simp [he]
    by_cases ha : a = (rest s).size
    · have c2 : (a == ((rest s).size : Int)) = true := by simp [ha]
      have c2' : (a != ((rest s).size : Int)) = false := by simp [ha]
      by_cases hn : n ≤ 16777216
      · have HR := Lib.hid (HS.out.trans (readR_yes he ha hn))
        have HG := Lib.hid (Good_of (b := bang s) h0' hn)
        clear he ha HS
        go_enter Tryd.func23, Tryd.ntmps23
        go_wp2_with fail
        go_at_call 31; refine (cut_any _ _).mono ?_; rintro e w' ⟨rfl, rfl⟩
        go_wp2_with fail
        go_at_call 32; refine (Nat_of HN.out _ hr).mono ?_; rintro e w' ⟨rfl, rfl⟩
        go_wp2_with fail
        go_at_call 6; refine (Of_any _ _ _).mono ?_; rintro e w' ⟨rfl, rfl⟩
        go_wp2_with fail
        go_at_call 8; refine (Good_yes HG.out _).mono ?_; rintro e w' ⟨rfl, rfl⟩
        go_wp2_with fail
        go_ret2
        exact ⟨twoR_ret HR.out, rfl⟩
      · have HR := Lib.hid (HS.out.trans (readR_no (fun h => hn h.2.2)))
        have HG := Lib.hid (Good_bad (b := bang s) (by omega : 16777216 < n))
        clear he ha HS
        go_enter Tryd.func23, Tryd.ntmps23
        go_wp2_with fail
        go_at_call 31; refine (cut_any _ _).mono ?_; rintro e w' ⟨rfl, rfl⟩
        go_wp2_with fail
        go_at_call 32; refine (Nat_of HN.out _ hr).mono ?_; rintro e w' ⟨rfl, rfl⟩
        go_wp2_with fail
        go_at_call 6; refine (Of_any _ _ _).mono ?_; rintro e w' ⟨rfl, rfl⟩
        go_wp2_with fail
        go_at_call 8; refine (Good_no HG.out _).mono ?_; rintro e w' ⟨rfl, rfl⟩
        go_wp2_with fail
        go_ret2
        exact ⟨twoR_ret HR.out, rfl⟩
    · have c2 : (a == ((rest s).size : Int)) = false := by simp [ha]
      have c2' : (a != ((rest s).size : Int)) = true := by simp [ha]
      have HR := Lib.hid (HS.out.trans (readR_no (fun h => ha h.2.1)))
      clear he ha HS
      go_enter Tryd.func23, Tryd.ntmps23
      go_wp2_with fail
      go_at_call 31; refine (cut_any _ _).mono ?_; rintro e w' ⟨rfl, rfl⟩
      go_wp2_with fail
      go_at_call 32; refine (Nat_of HN.out _ hr).mono ?_; rintro e w' ⟨rfl, rfl⟩
      go_wp2_with fail
      go_ret2
      exact ⟨twoR_ret HR.out, rfl⟩
  · have c1 : (e == 0) = false := by simp [he]
    have c1' : (e != 0) = true := by simp [he]
    have HR := Lib.hid (HS.out.trans (readR_no (fun h => he h.1)))
    clear he HS
    go_enter Tryd.func23, Tryd.ntmps23
    go_wp2_with fail
    go_at_call 31; refine (cut_any _ _).mono ?_; rintro e w' ⟨rfl, rfl⟩
    go_wp2_with fail
    go_at_call 32; refine (Nat_of HN.out _ hr).mono ?_; rintro e w' ⟨rfl, rfl⟩
    go_wp2_with fail
    go_ret2
    exact ⟨twoR_ret HR.out, rfl⟩
end Go.Proofs.YtjmiclgagjkooaaDoor.lits
