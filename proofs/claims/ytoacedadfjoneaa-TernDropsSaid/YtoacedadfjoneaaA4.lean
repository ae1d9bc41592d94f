/- The walks of the document's Or, Mux and Xor. -/
import Derived.Test.YtoacedadfjoneaaA3
namespace Go.Proofs.Ytoacedadfjoneaa.aig
open Go.RowKit
open Go.Proofs.Ytoacedadfjoneaa.mem Go.Proofs.Ytoacedadfjoneaa.agf

theorem and_len (N : Net) (a b : Int) : (andF N a b).2.length ≤ N.length + 1 ∧ N.length ≤ (andF N a b).2.length ∧ -1 ≤ (andF N a b).1 ∧ (andF N a b).1 ≤ 2 * ((andF N a b).2.length : Int) + 1 := by
  by_cases hh : hasB N.length a = true ∧ hasB N.length b = true
  · have h := and_way hh.1 hh.2
    obtain ⟨e1, e2⟩ := and_ext hh.1 hh.2
    have e3 := has_iff.1 e2
    have e4 := e1.len
    refine ⟨?_, e4, by omega, e3.2⟩
    generalize (andF N a b).1 = r at h
    generalize (andF N a b).2 = M at h ⊢
    cases h with
    | zero h => omega
    | right h => omega
    | left h => omega
    | there i x y hx hi h => omega
    | fresh x y hx lo lt hi h => simp
  · have hn : hasB N.length a = false ∨ hasB N.length b = false := by
      cases h1 : hasB N.length a
      · exact .inl rfl
      · cases h2 : hasB N.length b
        · exact .inr rfl
        · exact absurd ⟨h1, h2⟩ hh
    rw [andF_no hn]
    exact ⟨Nat.le_succ _, Nat.le_refl _, Int.le_refl _, by show (-1 : Int) ≤ 2 * (N.length : Int) + 1; omega⟩
theorem nt_bd {l : Int} {m : Nat} (h : -1 ≤ l ∧ l ≤ 2 * (m : Int) + 1) : -1 ≤ nt l ∧ nt l ≤ 2 * (m : Int) + 1 := by
  unfold nt; split
  · omega
  · split <;> omega
theorem or_len (N : Net) (a b : Int) : (orF N a b).2.length ≤ N.length + 1 ∧ N.length ≤ (orF N a b).2.length ∧ -1 ≤ (orF N a b).1 ∧ (orF N a b).1 ≤ 2 * ((orF N a b).2.length : Int) + 1 := by
  obtain ⟨h1, h2, h3, h4⟩ := and_len N (nt a) (nt b)
  obtain ⟨h5, h6⟩ := nt_bd ⟨h3, h4⟩
  exact ⟨h1, h2, h5, h6⟩
theorem mux_len (N : Net) (c a b : Int) : (muxF N c a b).2.length ≤ N.length + 3 ∧ N.length ≤ (muxF N c a b).2.length ∧ -1 ≤ (muxF N c a b).1 ∧ (muxF N c a b).1 ≤ 2 * ((muxF N c a b).2.length : Int) + 1 := by
  unfold muxF
  split
  · obtain ⟨h1, h2, -, -⟩ := and_len N c a
    obtain ⟨k1, k2, -, -⟩ := and_len (andF N c a).2 (nt c) b
    obtain ⟨l1, l2, l3, l4⟩ := or_len (andF (andF N c a).2 (nt c) b).2 (andF N c a).1 (andF (andF N c a).2 (nt c) b).1
    exact ⟨Nat.le_trans l1 (by omega), Nat.le_trans (by omega) l2, l3, l4⟩
  · exact ⟨Nat.le_add_right _ _, Nat.le_refl _, Int.le_refl _, by show (-1 : Int) ≤ 2 * (N.length : Int) + 1; omega⟩
def In64 (a : Int) : Prop := -9223372036854775808 ≤ a ∧ a ≤ 9223372036854775807
theorem nt_in {a : Int} (h : In64 a) : In64 (nt a) := by
  unfold In64 nt at *
  split
  · omega
  · split <;> omega
theorem RStep.trans {A B h : Nat} {sv sv1 : Value} {r : Int} {M : Net} {w w1 w2 : World} {e : Ending} (h1 : Moved (ROwn h sv) (ROwn h sv1) w w1) (k : RStep A B h sv1 r M w1 e w2) : RStep A B h sv r M w e w2 := by
  obtain ⟨sv', e1, e2, e3⟩ := k
  exact ⟨sv', e1, e2, h1.trans e3⟩
theorem muxF_no {N : Net} {c a b : Int} (h : hasB N.length c = false ∨ hasB N.length a = false ∨ hasB N.length b = false) : muxF N c a b = (-1, N) := by
  unfold muxF
  rcases h with h | h | h <;> rw [h] <;> simp
theorem muxF_yes {N : Net} {c a b : Int} (hc : hasB N.length c = true) (ha : hasB N.length a = true) (hb : hasB N.length b = true) :
    muxF N c a b = orF (andF (andF N c a).2 (nt c) b).2 (andF N c a).1 (andF (andF N c a).2 (nt c) b).1 := by
  unfold muxF
  rw [hc, ha, hb]; rfl
end Go.Proofs.Ytoacedadfjoneaa.aig
