/- The walk of the document's reader of a literal. -/
import Derived.Test.YtjmiclgagjkooaaDoorR
namespace Go.Proofs.YtjmiclgagjkooaaDoor.lits
open Go.RowKit Go.PlainAid
open Go.Proofs.YtjmiclgagjkooaaDoor.fns
open Go.Proofs.YtjmiclgagjkooaaDoor.oct

theorem refRead_any (s : ByteArray) (w : World) (hs : s.size ≤ maxLen) : Calls Tryd.prog 24 #[.string s] w fun e w' => e = .returned (twoR (readS s)) ∧ w = w' := by
  have hr : (rest s).size ≤ maxLen := Nat.le_trans (rest_le s) hs
  obtain ⟨r, hN⟩ : ∃ r, natAt (rest s) 0 = r := ⟨_, rfl⟩
  obtain ⟨n, a, e⟩ := r
  have HS : Hid (readS s = readR (n, a, e) (rest s).size (bang s)) := Lib.hid (by unfold readS; rw [hN])
  have hb := get_bt s
  unfold maxLen at hs
  by_cases hz : 0 < s.size
  · by_cases h33 : bt s 0 = 33
    · have hbang := bang_yes hz h33
      have cb : (bt s 0 == 33) = true := by simp [h33]
      rw [rest_yes hbang] at hr hN HS
      rw [hbang] at HS
      have hz1 : (s.extract 1 s.size).size = s.size - 1 := by rw [ByteArray.size_extract]; omega
      rw [hz1] at HS
      have HN := Lib.hid hN
      clear hN h33 hbang hz1
      by_cases he : e = 0
      · have c1' : (e != 0) = false := by simp [he]
        by_cases ha : a = ((s.size - 1 : Nat) : Int)
        · have c2' : (a != ((s.size - 1 : Nat) : Int)) = false := by simp [ha]
          have c2'' : (a != (s.size : Int) - 1) = false := by simp; omega
          by_cases hn : n ≤ 16777216
          · have HR := Lib.hid (HS.out.trans (readR_yes he ha hn))
            clear he ha HS
            go_enter Tryd.func24, Tryd.ntmps24
            go_wp2_with fail
            go_at_call 33; refine (refNat_of HN.out _ hr).mono ?_; rintro e w' ⟨rfl, rfl⟩
            go_wp2_with fail
            go_at_call 7; refine (refOf_any _ _ _).mono ?_; rintro e w' ⟨rfl, rfl⟩
            go_wp2_with fail
            go_ret2
            exact ⟨twoR_ret HR.out, rfl⟩
          · have HR := Lib.hid (HS.out.trans (readR_no (fun h => hn h.2.2)))
            clear he ha HS
            go_enter Tryd.func24, Tryd.ntmps24
            go_wp2_with fail
            go_at_call 33; refine (refNat_of HN.out _ hr).mono ?_; rintro e w' ⟨rfl, rfl⟩
            go_wp2_with fail
            go_ret2
            exact ⟨twoR_ret HR.out, rfl⟩
        · have c2' : (a != ((s.size - 1 : Nat) : Int)) = true := by simp [ha]
          have c2'' : (a != (s.size : Int) - 1) = true := by simp; omega
          have HR := Lib.hid (HS.out.trans (readR_no (fun h => ha h.2.1)))
          clear he ha HS
          go_enter Tryd.func24, Tryd.ntmps24
          go_wp2_with fail
          go_at_call 33; refine (refNat_of HN.out _ hr).mono ?_; rintro e w' ⟨rfl, rfl⟩
          go_wp2_with fail
          go_ret2
          exact ⟨twoR_ret HR.out, rfl⟩
      · have c1' : (e != 0) = true := by simp [he]
        have HR := Lib.hid (HS.out.trans (readR_no (fun h => he h.1)))
        clear he HS
        go_enter Tryd.func24, Tryd.ntmps24
        go_wp2_with fail
        go_at_call 33; refine (refNat_of HN.out _ hr).mono ?_; rintro e w' ⟨rfl, rfl⟩
        go_wp2_with fail
        go_ret2
        exact ⟨twoR_ret HR.out, rfl⟩
    · have hbang : bang s = false := bang_no (fun h => h33 h.2)
      have cb : (bt s 0 == 33) = false := by simp [h33]
      rw [rest_no hbang] at hr hN HS
      rw [hbang] at HS
      have HN := Lib.hid hN
      clear hN h33 hbang
      by_cases he : e = 0
      · have c1' : (e != 0) = false := by simp [he]
        by_cases ha : a = (s.size : Int)
        · have c2' : (a != (s.size : Int)) = false := by simp [ha]
          by_cases hn : n ≤ 16777216
          · have HR := Lib.hid (HS.out.trans (readR_yes he ha hn))
            clear he ha HS
            go_enter Tryd.func24, Tryd.ntmps24
            go_wp2_with fail
            go_at_call 33; refine (refNat_of HN.out _ hr).mono ?_; rintro e w' ⟨rfl, rfl⟩
            go_wp2_with fail
            go_at_call 7; refine (refOf_any _ _ _).mono ?_; rintro e w' ⟨rfl, rfl⟩
            go_wp2_with fail
            go_ret2
            exact ⟨twoR_ret HR.out, rfl⟩
          · have HR := Lib.hid (HS.out.trans (readR_no (fun h => hn h.2.2)))
            clear he ha HS
            go_enter Tryd.func24, Tryd.ntmps24
            go_wp2_with fail
            go_at_call 33; refine (refNat_of HN.out _ hr).mono ?_; rintro e w' ⟨rfl, rfl⟩
            go_wp2_with fail
            go_ret2
            exact ⟨twoR_ret HR.out, rfl⟩
        · have c2' : (a != (s.size : Int)) = true := by simp [ha]
          have HR := Lib.hid (HS.out.trans (readR_no (fun h => ha h.2.1)))
          clear he ha HS
          go_enter Tryd.func24, Tryd.ntmps24
          go_wp2_with fail
          go_at_call 33; refine (refNat_of HN.out _ hr).mono ?_; rintro e w' ⟨rfl, rfl⟩
          go_wp2_with fail
          go_ret2
          exact ⟨twoR_ret HR.out, rfl⟩
      · have c1' : (e != 0) = true := by simp [he]
        have HR := Lib.hid (HS.out.trans (readR_no (fun h => he h.1)))
        clear he HS
        go_enter Tryd.func24, Tryd.ntmps24
        go_wp2_with fail
        go_at_call 33; refine (refNat_of HN.out _ hr).mono ?_; rintro e w' ⟨rfl, rfl⟩
        go_wp2_with fail
        go_ret2
        exact ⟨twoR_ret HR.out, rfl⟩
  · have hbang : bang s = false := bang_no (fun h => hz h.1)
    rw [rest_no hbang] at hr hN HS
    rw [hbang] at HS
    have hN0 := hN
    rw [show (0 : Int) = ((0 : Nat) : Int) from rfl, natAt_end (by omega)] at hN0
    have he : e ≠ 0 := by have := congrArg (·.2.2) hN0; simp at this; omega
    have hz' : s.size ≤ 0 := by omega
    have HN := Lib.hid hN
    have c1' : (e != 0) = true := by simp [he]
    have HR := Lib.hid (HS.out.trans (readR_no (fun h => he h.1)))
    clear he HS hN hN0 hbang hz
    go_enter Tryd.func24, Tryd.ntmps24
    go_wp2_with fail
    go_at_call 33; refine (refNat_of HN.out _ hr).mono ?_; rintro e w' ⟨rfl, rfl⟩
    go_wp2_with fail
    go_ret2
    exact ⟨twoR_ret HR.out, rfl⟩
end Go.Proofs.YtjmiclgagjkooaaDoor.lits
