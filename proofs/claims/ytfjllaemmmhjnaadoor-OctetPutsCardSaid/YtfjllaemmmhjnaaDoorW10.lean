/- The walk of the statement on writers. -/
import Derived.Test.YtfjllaemmmhjnaaDoorFnP
import Derived.Test.YtfjllaemmmhjnaaDoorW9
namespace Go.Proofs.YtfjllaemmmhjnaaDoor.oct
open Go.RowKit Go.PlainAid
open Go.Proofs.YtfjllaemmmhjnaaDoor.fns

theorem refDec_any (n : Int) (w : World) (h0 : -9223372036854775808 ≤ n) (h1 : n ≤ 9223372036854775807) :
    Calls Tryd.prog 11 #[.int .i64 n] w fun e w' => e = .returned (.string ⟨(Lib.itoa n).toArray⟩) ∧ Below w.heap.size w w' := by
  by_cases h : n < 0
  · obtain ⟨u, rfl⟩ : ∃ u : Nat, n = -(u : Int) := ⟨n.natAbs, by omega⟩
    have e : Lib.itoa (-(u : Int)) = 45 :: Lib.decDigits u := by unfold Lib.itoa; rw [if_pos h]; congr 2; omega
    rw [e]
    exact refDec_neg u w (by omega) (by omega)
  · obtain ⟨u, rfl⟩ : ∃ u : Nat, n = (u : Int) := ⟨n.toNat, by omega⟩
    have e : Lib.itoa (u : Int) = Lib.decDigits u := by unfold Lib.itoa; rw [if_neg h]; congr 1
    rw [e]
    exact refDec_nat u w (by omega)

theorem numS_size (n : Nat) : (numS n).size ≤ 5 := by
  have := numL_len 4 n
  simpa [numS, ByteArray.size] using this

theorem get_put_any (n : Nat) (hn : n < 4294967296) (more : ByteArray) (hm : more.size ≤ 300) (w : World) :
    Calls Tryd.prog 8 #[.string (numS n ++ more), .int .i64 0] w fun e w' => e = .returned (.tuple #[.int .u32 n, .int .i64 (numS n).size, .int .i64 0]) ∧ w = w' := by
  have h := get_any (numS n ++ more) 0 w (by rw [ByteArray.size_append]; have := numS_size n; unfold maxLen; omega)
  rw [get_put n hn more] at h
  exact h

theorem puts_walk (n : Nat) (m : Int) (more : ByteArray) (w : World) (hn : n < 4294967296) (h0 : -9223372036854775808 ≤ m) (h1 : m ≤ 9223372036854775807) (hs : more.size ≤ maxLen) (hT : Tab w) :
    Calls Tryd.prog 3 #[.int .u32 n, .int .i64 m, .string more] w fun e w' => e = .returned (.bool true) ∧ Below w.heap.size w w' := by
  have hz := numS_size n
  have HN := Lib.hid hn
  clear hn
  unfold maxLen at hs
  by_cases h : 300 < more.size
  · have hc : (more.extract 0 300).size ≤ 300 := by rw [ByteArray.size_extract]; omega
    go_enter Tryd.func3, Tryd.ntmps3
    go_wp2_with fail
    go_at_call 7; refine (num_any _ _ HN.out).mono ?_; rintro e w1 ⟨rfl, b1⟩
    go_wp2_with fail
    go_at_call 8; refine (get_put_any n HN.out _ hc _).mono ?_; rintro e w' ⟨rfl, rfl⟩
    go_wp2_with fail
    go_at_call 9; refine (refNum_any _ _ HN.out).mono ?_; rintro e w2 ⟨rfl, b2⟩
    have hT2 := (hT.on b1).on b2
    go_wp2_with fail
    go_at_call 10; refine (dec_any _ _ h0 h1 hT2).mono ?_; rintro e w3 ⟨rfl, b3⟩
    have hT3 := hT2.on b3
    go_wp2_with fail
    go_at_call 11; refine (refDec_any _ _ h0 h1).mono ?_; rintro e w4 ⟨rfl, b4⟩
    have hT4 := hT3.on b4
    go_wp2_with fail
    go_at_call 12; refine (lives_any _ hT4).mono ?_; rintro e w5 ⟨rfl, b5⟩
    go_wp2_with fail
    go_ret
    have s1 := b1.size
    have s2 := b2.size
    have s3 := b3.size
    have s4 := b4.size
    exact ⟨rfl, b1.trans ((b2.mono s1).trans ((b3.mono (by omega)).trans ((b4.mono (by omega)).trans (b5.mono (by omega)))))⟩
  · have hc : more.size ≤ 300 := by omega
    clear h
    go_enter Tryd.func3, Tryd.ntmps3
    go_wp2_with fail
    go_at_call 7; refine (num_any _ _ HN.out).mono ?_; rintro e w1 ⟨rfl, b1⟩
    go_wp2_with fail
    go_at_call 8; refine (get_put_any n HN.out _ hc _).mono ?_; rintro e w' ⟨rfl, rfl⟩
    go_wp2_with fail
    go_at_call 9; refine (refNum_any _ _ HN.out).mono ?_; rintro e w2 ⟨rfl, b2⟩
    have hT2 := (hT.on b1).on b2
    go_wp2_with fail
    go_at_call 10; refine (dec_any _ _ h0 h1 hT2).mono ?_; rintro e w3 ⟨rfl, b3⟩
    have hT3 := hT2.on b3
    go_wp2_with fail
    go_at_call 11; refine (refDec_any _ _ h0 h1).mono ?_; rintro e w4 ⟨rfl, b4⟩
    have hT4 := hT3.on b4
    go_wp2_with fail
    go_at_call 12; refine (lives_any _ hT4).mono ?_; rintro e w5 ⟨rfl, b5⟩
    go_wp2_with fail
    go_ret
    have s1 := b1.size
    have s2 := b2.size
    have s3 := b3.size
    have s4 := b4.size
    exact ⟨rfl, b1.trans ((b2.mono s1).trans ((b3.mono (by omega)).trans ((b4.mono (by omega)).trans (b5.mono (by omega)))))⟩
end Go.Proofs.YtfjllaemmmhjnaaDoor.oct
