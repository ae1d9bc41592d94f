/- What the project's dropper does, purely. -/
import Derived.Test.YtoacedadfjoneaaFv
import Derived.Test.YtoacedadfjoneaaFs
namespace Go.Proofs.Ytoacedadfjoneaa.aig
open Go.Proofs.Ytoacedadfjoneaa.agf Go.Proofs.Ytoacedadfjoneaa.fns
open Go.Proofs.Ytoacedadfjoneaa.tri (tLit tKnown)

def Tri (x : Int) : Prop := x = 0 ∨ x = 1 ∨ x = 2
theorem tNot_two (a : Int) : Tri (tNot a) := by
  unfold tNot Tri; split
  · simp
  · split <;> simp
theorem tKnown_two (l : List Int) (v : Int) : Tri (tKnown l v) := by
  unfold tKnown; split
  · exact .inl rfl
  · split
    · exact tv_cases _
    · exact .inr (.inr rfl)
theorem tLit_two (l : List Int) (x : Int) : Tri (tLit l x) := by
  unfold tLit; split
  · exact tNot_two _
  · exact tKnown_two _ _
theorem below_two {x y : Int} (hx : Tri x) (hy : Tri y) (h : tBelow x y = true) : x = 2 ∨ x = y := by
  rw [below_iff, tv_two hx, tv_two hy] at h
  rcases h with h | h
  · left; rcases hx with e | e | e
    · exact absurd e h.1
    · exact absurd e h.2
    · exact e
  · exact .inr h
theorem two_below {x y : Int} (h : x = 2 ∨ x = y) : tBelow x y = true := by
  rcases h with rfl | rfl
  · exact bl_two _
  · exact bl_refl _
/-- inputs that say less -/
def Lower (a b : List Int) : Prop := ∀ k, tBelow (tIn a k) (tIn b k) = true
theorem Lower.refl (a : List Int) : Lower a a := fun _ => bl_refl _
theorem Lower.trans {a b c : List Int} (h : Lower a b) (g : Lower b c) : Lower a c := fun k => bl_trans (h k) (g k)
theorem lower_set (out : List Int) (k : Nat) : Lower (out.set k 2) out := fun _ => tIn_set
theorem tSt_lower {a b : List Int} (h : Lower a b) (N : Net) (j : Nat) : (tSt a N).1.getD j 0 = 2 ∨ (tSt a N).1.getD j 0 = (tSt b N).1.getD j 0 := by
  have := mono_all h N N.length (Nat.le_refl _) j
  rw [List.take_length] at this
  exact below_two (tSt_vals _ _ _) (tSt_vals _ _ _) this
theorem tLit_lower {T T' : List Int} (hl : T.length = T'.length) (h : ∀ j, T.getD j 0 = 2 ∨ T.getD j 0 = T'.getD j 0) (x : Int) : tLit T x = 2 ∨ tLit T x = tLit T' x :=
  below_two (tLit_two _ _) (tLit_two _ _) (bl_lit hl (fun j => two_below (h j)) x)
theorem tNot_open {x : Int} (hx : Tri x) (h : tNot x = 2) : x = 2 := by
  rcases hx with rfl | rfl | rfl
  · exact absurd h (by decide)
  · exact absurd h (by decide)
  · rfl
/-- a literal of a variable that is open -/
theorem lit_open {T : List Int} (h0 : T.getD 0 0 = 0) {x : Int} (hx : 0 ≤ litVar x) (h : T.getD (litVar x).toNat 0 = 2) : tLit T x = 2 := by
  have hlt : (litVar x).toNat < T.length := by
    by_cases e : (litVar x).toNat < T.length
    · exact e
    · rw [getD_none (by omega)] at h; exact absurd h (by decide)
  have hne : litVar x ≠ 0 := fun e => by rw [e, Int.toNat_zero, h0] at h; exact absurd h (by decide)
  have K : tKnown T (litVar x) = 2 := by
    unfold tKnown; rw [if_neg hne, if_pos ⟨by omega, by omega⟩, h]; rfl
  unfold tLit; rw [K]; split <;> rfl
theorem lit_was {T : List Int} (hv : ∀ j, Tri (T.getD j 0)) {x : Int} (hx : 0 ≤ litVar x) (hlt : (litVar x).toNat < T.length) (h : tLit T x = 2) : T.getD (litVar x).toNat 0 = 2 := by
  have K : tKnown T (litVar x) = 2 := by
    unfold tLit at h
    split at h
    · exact tNot_open (tKnown_two _ _) h
    · exact h
  unfold tKnown at K
  split at K
  · exact absurd K (by decide)
  · split at K
    · rwa [tv_two (hv _)] at K
    · omega
theorem lit_one {T : List Int} {x : Int} (h : tLit T x = 1) : 0 ≤ litVar x ∧ (litVar x).toNat < T.length ∨ litVar x = 0 := by
  have K : tKnown T (litVar x) ≠ 2 := fun e => by
    unfold tLit at h; rw [e] at h
    split at h <;> exact absurd h (by decide)
  unfold tKnown at K
  split at K
  · exact .inr (by assumption)
  · split at K
    · left; omega
    · exact absurd rfl K
theorem lit_same {T T' : List Int} (hl : T.length = T'.length) {x : Int} (h : T.getD (litVar x).toNat 0 = T'.getD (litVar x).toNat 0) : tLit T x = tLit T' x := by
  have K : tKnown T (litVar x) = tKnown T' (litVar x) := by
    unfold tKnown; rw [hl, h]
  unfold tLit; rw [K]
theorem var_nat {a : Nat} (h : a ≤ 33554433) : litVar (a : Int) = ((a / 2 : Nat) : Int) := by rw [var_yes (good_yes (by omega) (by omega))]; omega
/-! ## What takes a literal with it -/
def Fo (N : Net) (ls out : List Int) (m : Nat) : Prop := ∀ o, Lower o out → (tSt o N).1.getD m 0 = 2 → tSure N o ls = false
theorem Fo.lower {N : Net} {ls out o : List Int} {m : Nat} (h : Fo N ls out m) (hl : Lower o out) : Fo N ls o m := fun p hp h2 => h p (hp.trans hl) h2
theorem sure_none {N : Net} {o ls : List Int} {x : Int} (hx : x ∈ ls) (h : tLit (tSt o N).1 x = 2) : tSure N o ls = false := by
  unfold tSure
  rw [Bool.eq_false_iff]
  intro e
  have := List.all_eq_true.1 e x hx
  rw [h] at this
  exact absurd this (by decide)
theorem sure_at {N : Net} {o ls : List Int} (h : tSure N o ls = true) {x : Int} (hx : x ∈ ls) : tLit (tSt o N).1 x = 1 := by
  unfold tSure at h
  simpa using List.all_eq_true.1 h x hx
theorem fo_lit {N : Net} {ls out : List Int} {x : Int} (hx : x ∈ ls) (h0 : 0 ≤ litVar x) : Fo N ls out (litVar x).toNat := fun o _ h2 => sure_none hx (lit_open (tSt_zero o N) h0 h2)
/-- the variables without each of which a variable would be open -/
def causeL (V : List Int) (ns : List (Int × Int)) (v : Nat) : List Int :=
  if v = 0 ∨ (ns.getD (v - 1) (0, 0)).1 < 0 then [] else
  if V.getD v 0 = 1 then [(ns.getD (v - 1) (0, 0)).1 / 2, (ns.getD (v - 1) (0, 0)).2 / 2] else
  if tLit V (ns.getD (v - 1) (0, 0)).1 ≠ 0 then [(ns.getD (v - 1) (0, 0)).2 / 2] else
  if tLit V (ns.getD (v - 1) (0, 0)).2 ≠ 0 then [(ns.getD (v - 1) (0, 0)).1 / 2] else []
theorem causeL_len (V : List Int) (ns : List (Int × Int)) (v : Nat) : (causeL V ns v).length ≤ 2 := by
  unfold causeL
  split
  · simp
  · split
    · simp
    · split
      · simp
      · split <;> simp
theorem and_one {a b : Int} (h : tAnd a b = 1) : a = 1 ∧ b = 1 := by
  unfold tAnd at h
  split at h
  · exact absurd h (by decide)
  · split at h
    · assumption
    · exact absurd h (by decide)
theorem half (a : Nat) : (a : Int) / 2 = ((a / 2 : Nat) : Int) := by omega
theorem gate_nat {ns : List (Int × Int)} (hg : GoodN ns) {k : Nat} (hk : k < ns.length) (h : ¬ (ns.getD k (0, 0)).1 < 0) :
    ∃ a b : Nat, ns.getD k (0, 0) = ((a : Int), (b : Int)) ∧ (ns.map absN)[k]? = some (some (a, b)) ∧ a ≤ 2 * k + 1 ∧ b ≤ 2 * k + 1 := by
  obtain ⟨g1, g2, g3⟩ := hg k hk (by omega)
  obtain ⟨pq, hpq⟩ : ∃ pq, pq = ns.getD k (0, 0) := ⟨_, rfl⟩
  have ha := absN_at hk
  rw [← hpq] at h g1 g2 g3 ha ⊢
  obtain ⟨p, q⟩ := pq
  obtain ⟨a, rfl⟩ := Int.eq_ofNat_of_zero_le (show 0 ≤ p by simp only at h; omega)
  obtain ⟨b, rfl⟩ := Int.eq_ofNat_of_zero_le (show 0 ≤ q by simpa using g2)
  refine ⟨a, b, rfl, ?_, by simp only at g1; omega, by simp only at g3; omega⟩
  rw [ha]; unfold absN; rw [if_neg (by simp)]; simp
section
variable {ns : List (Int × Int)} {ls out : List Int}
theorem fo_side {N : Net} (hN : agf.Good N) (hl : N.length ≤ 1000) {k a b c d : Nat} (h : N[k]? = some (some (a, b))) (hc : (c = a ∧ d = b) ∨ (c = b ∧ d = a)) (hd : tLit (tSt out N).1 (d : Int) ≠ 0) (hF : Fo N ls out (k + 1)) : Fo N ls out (c / 2) := by
  intro o ho h2
  have hk := (List.getElem?_eq_some_iff.1 h).1
  obtain ⟨g1, g2⟩ := hN k a b h
  refine hF o ho ?_
  have hcl : tLit (tSt o N).1 (c : Int) = 2 := by
    have e := var_nat (a := c) (by omega)
    exact lit_open (tSt_zero _ _) (by rw [e]; omega) (by rw [e, Int.toNat_natCast]; exact h2)
  have hdl : tLit (tSt o N).1 (d : Int) ≠ 0 := by
    rcases tLit_lower (by rw [tSt_len, tSt_len]) (tSt_lower ho N) (d : Int) with e | e
    · rw [e]; decide
    · rw [e]; exact hd
  rw [tSt_gate o hN hl h]
  rcases hc with ⟨rfl, rfl⟩ | ⟨rfl, rfl⟩
  · rw [hcl]; exact and_ol (by decide) hdl
  · rw [hcl]; exact and_or hdl (by decide)
theorem cause_fo (hg : GoodN ns) (hn : ns.length ≤ 1000) {v : Nat} (hv : v ≤ ns.length) (hF : Fo (ns.map absN) ls out v) :
    ∀ c ∈ causeL (tSt out (ns.map absN)).1 ns v, ∃ j : Nat, c = (j : Int) ∧ j < ns.length + 1 ∧ Fo (ns.map absN) ls out j := by
  intro c hc
  unfold causeL at hc
  split at hc
  · simp at hc
  · rename_i hno
    have h0 : v ≠ 0 := fun e => hno (.inl e)
    obtain ⟨a, b, e, hN, ga, gb⟩ := gate_nat hg (k := v - 1) (by omega) (fun e => hno (.inr e))
    have hGN := good_abs hg
    have hl : (ns.map absN).length ≤ 1000 := by rw [List.length_map]; exact hn
    have vv : v - 1 + 1 = v := by omega
    have ka : a / 2 < ns.length + 1 := by omega
    have kb : b / 2 < ns.length + 1 := by omega
    have hF' : Fo (ns.map absN) ls out (v - 1 + 1) := by rw [vv]; exact hF
    have hA : tLit (tSt out (ns.map absN)).1 (b : Int) ≠ 0 → ∃ j : Nat, (a : Int) / 2 = (j : Int) ∧ j < ns.length + 1 ∧ Fo (ns.map absN) ls out j := fun hb =>
      ⟨a / 2, half a, ka, fo_side hGN hl hN (.inl ⟨rfl, rfl⟩) hb hF'⟩
    have hB : tLit (tSt out (ns.map absN)).1 (a : Int) ≠ 0 → ∃ j : Nat, (b : Int) / 2 = (j : Int) ∧ j < ns.length + 1 ∧ Fo (ns.map absN) ls out j := fun hb =>
      ⟨b / 2, half b, kb, fo_side hGN hl hN (.inr ⟨rfl, rfl⟩) hb hF'⟩
    have hV := tSt_gate out hGN hl hN
    rw [vv] at hV
    rw [e] at hc
    simp only at hc
    split at hc
    · rename_i h1
      rw [hV] at h1
      obtain ⟨e1, e2⟩ := and_one h1
      simp at hc
      rcases hc with rfl | rfl
      · exact hA (by rw [e2]; decide)
      · exact hB (by rw [e1]; decide)
    · split at hc
      · rename_i h1
        simp at hc; subst hc; exact hB h1
      · split at hc
        · rename_i h1
          simp at hc; subst hc; exact hA h1
        · simp at hc
/-! ## What must stay -/
def cntF (M : List Bool) : Nat := M.countP (fun b => !b)
theorem cntF_le (M : List Bool) : cntF M ≤ M.length := List.countP_le_length
theorem cntF_set {M : List Bool} {v : Nat} (hv : v < M.length) (h : M.getD v false = false) : cntF (M.set v true) + 1 = cntF M := by
  have e : M[v] = false := by simpa [List.getD, hv] using h
  unfold cntF
  rw [List.countP_set hv, e]
  have : 0 < M.countP (fun b => !b) := List.countP_pos_iff.2 ⟨M[v], List.getElem_mem hv, by simp [e]⟩
  simp; omega
structure Ho (N : Net) (ls out : List Int) (M0 : List Bool) (S0 : List Int) (M : List Bool) (S : List Int) : Prop where
  len : M.length = M0.length
  more : ∀ m, M0.getD m false = true → M.getD m false = true
  all : ∀ s ∈ S0, M.getD s.toNat false = true ∨ s ∈ S
  fo : ∀ m, M.getD m false = true → Fo N ls out m
  fs : ∀ s ∈ S, ∃ j : Nat, s = (j : Int) ∧ j < M0.length ∧ Fo N ls out j
  room : S.length + 2 * cntF M ≤ S0.length + 2 * cntF M0
theorem ho_start {N : Net} {M : List Bool} {S : List Int} (h1 : ∀ m, M.getD m false = true → Fo N ls out m) (h2 : ∀ s ∈ S, ∃ j : Nat, s = (j : Int) ∧ j < M.length ∧ Fo N ls out j) : Ho N ls out M S M S :=
  ⟨rfl, fun _ h => h, fun _ hs => .inr hs, h1, h2, Nat.le_refl _⟩
theorem set_true {M : List Bool} {v m : Nat} (hv : v < M.length) : (M.set v true).getD m false = if v = m then true else M.getD m false := by
  by_cases e : v = m
  · subst e; rw [if_pos rfl]; simp [List.getD, hv]
  · rw [if_neg e]; simp [List.getD, List.getElem?_set_ne e]
theorem ho_skip {N : Net} {M0 M : List Bool} {S0 S : List Int} {v : Int} (h : Ho N ls out M0 S0 M (S ++ [v])) (hv : M.getD v.toNat false = true) : Ho N ls out M0 S0 M S :=
  ⟨h.len, h.more, fun s hs => by
    rcases h.all s hs with e | e
    · exact .inl e
    · rcases List.mem_append.1 e with e | e
      · exact .inr e
      · rw [List.mem_singleton.1 e]; exact .inl hv, h.fo, fun s hs => h.fs s (List.mem_append.2 (.inl hs)), by have := h.room; simp at this; omega⟩
theorem ho_mark {M0 M : List Bool} {S0 S C : List Int} {v : Nat} (h : Ho (ns.map absN) ls out M0 S0 M (S ++ [(v : Int)])) (hv : M.getD v false = false)
    (hC : ∀ c ∈ C, ∃ j : Nat, c = (j : Int) ∧ j < M0.length ∧ Fo (ns.map absN) ls out j) (hc : C.length ≤ 2) : Ho (ns.map absN) ls out M0 S0 (M.set v true) (S ++ C) := by
  obtain ⟨j, e, hj, hf⟩ := h.fs v (by simp)
  obtain rfl : j = v := by omega
  have hlt : j < M.length := by rw [h.len]; exact hj
  refine ⟨by rw [List.length_set]; exact h.len, fun m hm => ?_, fun s hs => ?_, fun m hm => ?_, fun s hs => ?_, ?_⟩
  · rw [set_true hlt]; split
    · rfl
    · exact h.more m hm
  · rcases h.all s hs with e | e
    · left; rw [set_true hlt]; split
      · rfl
      · exact e
    · rcases List.mem_append.1 e with e | e
      · exact .inr (List.mem_append.2 (.inl e))
      · rw [List.mem_singleton.1 e]; left; rw [set_true hlt, if_pos (by simp)]
  · rw [set_true hlt] at hm
    split at hm
    · rename_i e; rw [← e]; exact hf
    · exact h.fo m hm
  · rcases List.mem_append.1 hs with e | e
    · exact h.fs s (List.mem_append.2 (.inl e))
    · exact hC s e
  · have := h.room
    have := cntF_set hlt hv
    simp at *; omega
/-! ## What becomes open -/
def fanL (ns : List (Int × Int)) (x : Nat) : List Int := selTo (fanB ns x) ns.length
theorem fanL_len (ns : List (Int × Int)) (x : Nat) : (fanL ns x).length ≤ ns.length := sel_len _ _
theorem fan_of {k a b x : Nat} (h : (ns.map absN)[k]? = some (some (a, b))) (hx : a / 2 = x ∨ b / 2 = x) : ((k + 1 : Nat) : Int) ∈ fanL ns x := by
  have hk : k < ns.length := by have := (List.getElem?_eq_some_iff.1 h).1; rwa [List.length_map] at this
  rw [absN_at hk] at h
  have h := Option.some.inj h
  unfold absN at h
  split at h
  · cases h
  · rename_i hp
    obtain ⟨rfl, rfl⟩ := Prod.mk.inj (Option.some.inj h)
    have : ((k : Int) + 1) ∈ fanL ns x := sel_mem.2 ⟨hk, by
      rw [fanB_def, decide_eq_true (show 0 ≤ (ns.getD k (0, 0)).1 by omega)]
      rcases hx with e | e
      · rw [decide_eq_true e]; rfl
      · rw [decide_eq_true e]; simp⟩
    simpa using this
theorem fan_is {x p : Nat} (hp : p < (fanL ns x).length) : ∃ k : Nat, (fanL ns x).getD p 0 = ((k + 1 : Nat) : Int) ∧ k < ns.length ∧ ¬ (ns.getD k (0, 0)).1 < 0 := by
  obtain ⟨h1, h2, h3⟩ := sel_bd hp
  obtain ⟨z, hz⟩ : ∃ z, z = (selTo (fanB ns x) ns.length).getD p 0 := ⟨_, rfl⟩
  unfold fanL
  rw [← hz] at h1 h2 h3 ⊢
  refine ⟨(z - 1).toNat, by omega, by omega, ?_⟩
  rw [fanB_def] at h3
  simp only [Bool.and_eq_true, decide_eq_true_eq] at h3
  omega
def cnt2 (U : List Int) : Nat := U.countP (fun x => decide (x ≠ 2))
theorem cnt2_le (U : List Int) : cnt2 U ≤ U.length := List.countP_le_length
theorem cnt2_set {U : List Int} {v : Nat} (hv : v < U.length) (h : U.getD v 0 ≠ 2) : cnt2 (U.set v 2) + 1 = cnt2 U := by
  have e : U[v] ≠ 2 := by simpa [List.getD, hv] using h
  unfold cnt2
  rw [List.countP_set hv]
  have : 0 < U.countP (fun x => decide (x ≠ 2)) := List.countP_pos_iff.2 ⟨U[v], List.getElem_mem hv, by simp [e]⟩
  rw [if_pos (show decide (U[v] ≠ 2) = true by simp [e]), if_neg (show ¬ decide ((2 : Int) ≠ 2) = true by decide)]; omega
theorem cnt2_set_le {U : List Int} {v : Nat} : cnt2 (U.set v 2) ≤ cnt2 U := by
  by_cases hv : v < U.length
  · by_cases h : U.getD v 0 = 2
    · have e : U[v] = 2 := by simpa [List.getD, hv] using h
      have e2 : U.set v 2 = U := by rw [← e]; exact List.set_getElem_self hv
      rw [e2]; exact Nat.le_refl _
    · have := cnt2_set hv h; omega
  · rw [List.set_eq_of_length_le (by omega)]; exact Nat.le_refl _
theorem set_two {U : List Int} {v m : Nat} (hv : v < U.length) : (U.set v 2).getD m 0 = if v = m then 2 else U.getD m 0 := by
  by_cases e : v = m
  · subst e; rw [if_pos rfl]; simp [List.getD, hv]
  · rw [if_neg e]; simp [List.getD, List.getElem?_set_ne e]
/-- while what hangs on an input becomes open: V the values at first, T those at last, U those by now; R what is open by it; X what is still to be looked at -/
structure Fr (ns : List (Int × Int)) (V T F : List Int) (M : List Bool) (X : Nat → Prop) (U R : List Int) : Prop where
  len : U.length = V.length
  chg : ∀ j, U.getD j 0 = V.getD j 0 ∨ (U.getD j 0 = 2 ∧ T.getD j 0 = 2)
  frd : ∀ j : Nat, U.getD j 0 ≠ V.getD j 0 → (j : Int) ∈ R
  org : ∀ r ∈ R, ∃ j : Nat, r = (j : Int) ∧ j < V.length ∧ V.getD j 0 = F.getD j 0
  mst : ∀ j, M.getD j false = true → U.getD j 0 = V.getD j 0
  room : R.length + cnt2 U ≤ V.length + 1
  gate : ∀ k a b : Nat, (ns.map absN)[k]? = some (some (a, b)) → U.getD (k + 1) 0 = 2 ∨ tAnd (tLit U (a : Int)) (tLit U (b : Int)) ≠ 2 ∨ X (k + 1)
theorem lit_set {U : List Int} {v a : Nat} (ha : a ≤ 33554433) (h : a / 2 ≠ v) : tLit (U.set v 2) (a : Int) = tLit U (a : Int) :=
  lit_same (by simp) (by rw [var_nat ha]; simp only [Int.toNat_natCast, List.getD, List.getElem?_set_ne (Ne.symm h)])
def Pnd (ns : List (Int × Int)) (R : List Int) (i g : Nat) : Prop := ∃ r, i ≤ r ∧ r < R.length ∧ (g : Int) ∈ fanL ns (R.getD r 0).toNat
def PndI (ns : List (Int × Int)) (R : List Int) (i x p g : Nat) : Prop := (g : Int) ∈ (fanL ns x).drop p ∨ Pnd ns R (i + 1) g
theorem pnd_in {R : List Int} {i x g : Nat} (hx : R.getD i 0 = (x : Int)) (h : Pnd ns R i g) : PndI ns R i x 0 g := by
  obtain ⟨r, h1, h2, h3⟩ := h
  by_cases e : r = i
  · subst e; rw [hx] at h3; exact .inl (by simpa using h3)
  · exact .inr ⟨r, by omega, h2, h3⟩
theorem pnd_out {R : List Int} {i x p g : Nat} (hp : (fanL ns x).length ≤ p) (h : PndI ns R i x p g) : Pnd ns R (i + 1) g := by
  rcases h with h | h
  · rw [List.drop_eq_nil_of_le hp] at h; simp at h
  · exact h
theorem pnd_next {R : List Int} {i x p g : Nat} (hp : p < (fanL ns x).length) (h : PndI ns R i x p g) : (g : Int) = (fanL ns x).getD p 0 ∨ PndI ns R i x (p + 1) g := by
  rcases h with h | h
  · rw [drop_at hp] at h
    rcases List.mem_cons.1 h with h | h
    · exact .inl h
    · exact .inr (.inl h)
  · exact .inr (.inr h)
theorem pnd_more {R : List Int} {i x p g : Nat} (y : Int) (h : PndI ns R i x p g) : PndI ns (R ++ [y]) i x p g := by
  rcases h with h | ⟨r, h1, h2, h3⟩
  · exact .inl h
  · exact .inr ⟨r, h1, by simp; omega, by rw [snocI_l h2]; exact h3⟩
theorem pnd_new {R : List Int} {i x p g y : Nat} (hi : i < R.length) (h : (g : Int) ∈ fanL ns y) : PndI ns (R ++ [(y : Int)]) i x p g :=
  .inr ⟨R.length, by omega, by simp, by rw [snocI_r]; simpa using h⟩
variable {V T F U R : List Int} {M : List Bool} {X X' : Nat → Prop}
theorem Fr.weaken (h : Fr ns V T F M X U R) (hx : ∀ g, X g → X' g) : Fr ns V T F M X' U R :=
  ⟨h.len, h.chg, h.frd, h.org, h.mst, h.room, fun k a b e => (h.gate k a b e).imp id (Or.imp id (hx _))⟩
/-- of a gate there is nothing to be done -/
theorem Fr.skip {k a b : Nat} (h : Fr ns V T F M X U R) (e : (ns.map absN)[k]? = some (some (a, b))) (ho : U.getD (k + 1) 0 = 2 ∨ tAnd (tLit U (a : Int)) (tLit U (b : Int)) ≠ 2)
    (hx : ∀ g, X g → (g : Int) = ((k + 1 : Nat) : Int) ∨ X' g) : Fr ns V T F M X' U R := by
  refine ⟨h.len, h.chg, h.frd, h.org, h.mst, h.room, fun k' a' b' e' => ?_⟩
  rcases h.gate k' a' b' e' with g | g | g
  · exact .inl g
  · exact .inr (.inl g)
  · rcases hx _ g with g | g
    · obtain rfl : k' = k := by omega
      rw [e] at e'
      obtain ⟨rfl, rfl⟩ := Prod.mk.inj (Option.some.inj (Option.some.inj e'))
      exact ho.imp id .inl
    · exact .inr (.inr g)
/-- it is open at last -/
theorem Fr.forced {o : List Int} (hg : GoodN ns) (hn : ns.length ≤ 1000) (hT : T = (tSt o (ns.map absN)).1) (hTV : ∀ j, T.getD j 0 = 2 ∨ T.getD j 0 = V.getD j 0) (hl : T.length = V.length) {k a b : Nat} (h : Fr ns V T F M X U R) (e : (ns.map absN)[k]? = some (some (a, b)))
    (ho : tAnd (tLit U (a : Int)) (tLit U (b : Int)) = 2) : T.getD (k + 1) 0 = 2 := by
  have hTU : ∀ j, T.getD j 0 = 2 ∨ T.getD j 0 = U.getD j 0 := fun j => by
    rcases h.chg j with c | ⟨-, c⟩
    · rw [c]; exact hTV j
    · exact .inl c
  have ga := tSt_gate o (good_abs hg) (by rw [List.length_map]; exact hn) e
  rw [← hT] at ga
  have l1 : T.length = U.length := by rw [hl, h.len]
  have hb := bl_and (bl_lit l1 (fun j => two_below (hTU j)) (a : Int)) (bl_lit l1 (fun j => two_below (hTU j)) (b : Int))
  rw [ho, ← ga] at hb
  rcases below_two (by rw [hT]; exact tSt_vals _ _ _) (.inr (.inr rfl)) hb with c | c <;> exact c
theorem Fr.add (hg : GoodN ns) (hn : ns.length ≤ 1000) (hFV : ∀ j, V.getD j 0 = 2 ∨ V.getD j 0 = F.getD j 0) {k : Nat} (h : Fr ns V T F M X U R) (hk : k + 1 < V.length)
    (h2 : U.getD (k + 1) 0 ≠ 2) (hT2 : T.getD (k + 1) 0 = 2) (hm : M.getD (k + 1) false = false)
    (hx : ∀ g, X g → (g : Int) = ((k + 1 : Nat) : Int) ∨ X' g) (hy : ∀ g, g ∈ fanL ns (k + 1) → X' g.toNat) : Fr ns V T F M X' (U.set (k + 1) 2) (R ++ [((k + 1 : Nat) : Int)]) := by
  have hlt : k + 1 < U.length := by rw [h.len]; exact hk
  have hUV : U.getD (k + 1) 0 = V.getD (k + 1) 0 := (h.chg (k + 1)).resolve_right fun c => h2 c.1
  refine ⟨by rw [List.length_set]; exact h.len, fun j => ?_, fun j hj => ?_, fun r hr => ?_, fun j hj => ?_, ?_, fun k' a' b' e' => ?_⟩
  · rw [set_two hlt]; split
    · rename_i c; subst c; exact .inr ⟨rfl, hT2⟩
    · exact h.chg j
  · rw [set_two hlt] at hj
    split at hj
    · rename_i c; subst c; simp
    · exact List.mem_append.2 (.inl (h.frd j hj))
  · rcases List.mem_append.1 hr with c | c
    · exact h.org r c
    · rw [List.mem_singleton.1 c]
      exact ⟨k + 1, rfl, hk, (hFV (k + 1)).resolve_left (by rw [← hUV]; exact h2)⟩
  · rw [set_two hlt]; split
    · rename_i c; subst c; rw [hm] at hj; cases hj
    · exact h.mst j hj
  · have := h.room
    have := cnt2_set hlt h2
    simp at *; omega
  · have hk' : k' < ns.length := by have := (List.getElem?_eq_some_iff.1 e').1; rwa [List.length_map] at this
    obtain ⟨ga, gb⟩ := good_abs hg k' a' b' e'
    rw [set_two hlt]
    split
    · exact .inl rfl
    · rename_i hne
      by_cases ha : a' / 2 = k + 1
      · exact .inr (.inr (by simpa using hy _ (fan_of e' (.inl ha))))
      · by_cases hb : b' / 2 = k + 1
        · exact .inr (.inr (by simpa using hy _ (fan_of e' (.inr hb))))
        · rw [lit_set (by omega) ha, lit_set (by omega) hb]
          rcases h.gate k' a' b' e' with c | c | c
          · exact .inl c
          · exact .inr (.inl c)
          · rcases hx _ c with c | c
            · omega
            · exact .inr (.inr c)
/-- at last -/
theorem Fr.done {o out : List Int} (hg : GoodN ns) (hn : ns.length ≤ 1000) (hT : T = (tSt o (ns.map absN)).1) (hV : V = (tSt out (ns.map absN)).1) (hlow : Lower o out)
    (hin : ∀ k, (ns.map absN)[k]? = some none → U.getD (k + 1) 0 = T.getD (k + 1) 0) (h : Fr ns V T F M X U R) (hx : ∀ g, ¬ X g) : U = T := by
  have hl : (ns.map absN).length ≤ 1000 := by rw [List.length_map]; exact hn
  have hGN := good_abs hg
  have lT : T.length = ns.length + 1 := by rw [hT, tSt_len, List.length_map]
  have lU : U.length = ns.length + 1 := by rw [h.len, hV, tSt_len, List.length_map]
  have hTV : ∀ j, T.getD j 0 = 2 ∨ T.getD j 0 = V.getD j 0 := fun j => by rw [hT, hV]; exact tSt_lower hlow _ j
  have key : ∀ m, ∀ j, j ≤ m → j < ns.length + 1 → U.getD j 0 = T.getD j 0 := by
    intro m
    induction m with
    | zero =>
      intro j hj _
      obtain rfl : j = 0 := by omega
      rcases h.chg 0 with c | ⟨-, c⟩
      · rw [c, hV, hT, tSt_zero, tSt_zero]
      · rw [hT, tSt_zero] at c; exact absurd c (by decide)
    | succ m ih =>
      intro j hj hj2
      by_cases hjm : j ≤ m
      · exact ih j hjm hj2
      · obtain rfl : j = m + 1 := by omega
        have hm : m < (ns.map absN).length := by rw [List.length_map]; omega
        have e := List.getElem?_eq_getElem hm
        cases hx2 : (ns.map absN)[m] with
        | none => rw [hx2] at e; exact hin m e
        | some g =>
          obtain ⟨a, b⟩ := g
          rw [hx2] at e
          obtain ⟨ga, gb⟩ := hGN m a b e
          have P : ∀ x : Nat, x ≤ 2 * m + 1 → tLit U (x : Int) = tLit T (x : Int) := fun x hx3 =>
            lit_same (by rw [lU, lT]) (by rw [var_nat (show x ≤ 33554433 by omega)]; rw [Int.toNat_natCast]; exact ih (x / 2) (by omega) (by omega))
          have gT := tSt_gate o hGN hl e
          rw [← hT, ← P a ga, ← P b gb] at gT
          rcases h.gate m a b e with c | c | c
          · rw [c]
            rcases h.chg (m + 1) with d | ⟨-, d⟩
            · rcases hTV (m + 1) with f | f
              · exact f.symm
              · rw [f, ← d, c]
            · exact d.symm
          · rw [← gT] at c
            have f := (hTV (m + 1)).resolve_left c
            rcases h.chg (m + 1) with d | ⟨-, d⟩
            · rw [d, f]
            · exact absurd d c
          · exact absurd c (hx _)
  apply List.ext_getElem (by rw [lU, lT])
  intro i h1 h2
  have := key i i (Nat.le_refl _) (by omega)
  simpa [List.getD, h1, h2] using this
end
end Go.Proofs.Ytoacedadfjoneaa.aig
