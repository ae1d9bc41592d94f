/- A statement's step, of any kind. -/
import Derived.Test.YtfdihlicmmcjjaaAv
import Derived.Test.YtfdihlicmmcjjaaFnC
namespace Go.Proofs.Ytfdihlicmmcjjaa.aig
open Go.RowKit
open Go.Proofs.Ytfdihlicmmcjjaa.mem Go.Proofs.Ytfdihlicmmcjjaa.agf

theorem stepF_kept {P : Net → Prop} (K : Kept P) {N : Net} (d : AskD) (h : P N) : P (stepF N d) := by
  unfold stepF
  split; · exact K.inp _ h
  split; · exact K.and _ _ _ h
  split; · exact kept_or K _ _ h
  split; · exact kept_xor K _ _ h
  split; · exact kept_mux K _ _ _ h
  split; · exact kept_all K _ h
  split; · exact kept_copy K _ _ h
  exact h
theorem stepF_len (N : Net) (d : AskD) (hl : d.l.length ≤ 60) (hn : d.n.length ≤ 60) : (stepF N d).length ≤ N.length + 60 := by
  unfold stepF
  split; · simp [inF]
  split; · have := len_and N d.a d.b; omega
  split; · have := len_and N (nt d.a) (nt d.b); simp only [orF]; omega
  split; · have := len_mux N d.a (nt d.b) d.b; simp only [xorF]; omega
  split; · have := len_mux N d.a d.b d.c; omega
  split; · have := len_all N d.l; omega
  split; · have := len_copy N (d.n.map absN) d.l; rw [List.length_map] at this; omega
  omega
theorem step_any (J : Proj) (g : Nat) (s : J.σ) (N : Net) (h : Nat) (sv : Value) (M : Net) (d : AskD) (lv nv : Value) (W0 w : World) (t : Two J W0.heap.size w g s N h sv M) (hb : Below W0.heap.size W0 w)
    (hN : N.length ≤ 800000) (hM : M.length ≤ 800000) (ha : In64 d.a) (hb2 : In64 d.b) (hc : In64 d.c) (hl : KInts (New W0) W0 lv d.l) (ok : SliceOk lv) (hn : d.l.length ≤ 60) (hs : KNds (New W0) W0 nv d.n) (okn : SliceOk nv)
    (hnn : d.n.length ≤ 60) (hg : GoodN d.n) :
    Calls Try.prog 21 #[.pointer (some ⟨g, 0, none⟩), .pointer (some ⟨h, 0, none⟩), .agg #[.int .i64 d.kd, .int .i64 d.a, .int .i64 d.b, .int .i64 d.c, lv, nv]] w (Stepped J W0.heap.size g N h M d w) := by
  obtain ⟨kd, a, b, c, l, n⟩ := d
  have hA := hb.size
  by_cases h0 : kd = 0
  · subst h0; exact step_input J _ g s N h sv M a b c l n lv nv w t hA hN hM
  by_cases h1 : kd = 1
  · subst h1; exact step_and J _ g s N h sv M a b c l n lv nv w t hA hN hM ha hb2
  by_cases h2 : kd = 2
  · subst h2; exact step_or J _ g s N h sv M a b c l n lv nv w t hA hN hM ha hb2
  by_cases h3 : kd = 3
  · subst h3; exact step_xor J _ g s N h sv M a b c l n lv nv w t hA hN hM ha hb2
  by_cases h4 : kd = 4
  · subst h4; exact step_mux J _ g s N h sv M a b c l n lv nv w t hA hN hM ha hb2 hc
  by_cases h5 : kd = 5
  · subst h5; exact step_all J g s N h sv M a b c l n lv nv W0 w t hb hN hM hl ok hn
  by_cases h7 : kd = 7
  · subst h7; exact step_copy J g s N h sv M a b c l n lv nv W0 w t hb hN hM hl ok hn hs okn hnn hg
  exact step_none J _ g s N h sv M kd a b c l n lv nv w t hA ⟨h0, h1, h2, h3, h4, h5, h7⟩
/-- the lives example: what the store's New and gates tell -/
def Lives : Prop := ∀ w : World, Calls Try.prog 16 #[] w fun e w' => e = .returned (.bool true) ∧ Below w.heap.size w w'
end Go.Proofs.Ytfdihlicmmcjjaa.aig
