/- A region that draws its order, by an invariant: what holds whichever operations have come up. -/
import Derived.Orders
import Derived.WalkKit
namespace Go.Proofs.Ytmbmpghfidcnhaa.rinv
open Go

/-- every operation waits for earlier ones alone -/
def backB (ops : Array Oper) : Bool := (List.range ops.size).all fun i => ((ops[i]?).map fun o => o.after.all fun e => decide (e.on < i)).getD true
theorem backB_spec {ops : Array Oper} (h : backB ops = true) {i : Nat} {o : Oper} (ho : ops[i]? = some o) : ∀ e ∈ o.after, e.on < i := by
  intro e he
  have hi : i < ops.size := (Array.getElem?_eq_some_iff.1 ho).1
  have h1 := List.all_eq_true.1 h i (List.mem_range.2 hi)
  rw [ho] at h1
  simp only [Option.map_some, Option.getD_some, Array.all_eq_true_iff_forall_mem] at h1
  exact of_decide_eq_true (h1 e he)

def upd (f : Nat → Bool) (i : Nat) : Nat → Bool := fun k => f k || k == i
def flags (listed : Array Bool) : Nat → Bool := fun k => listed.getD k false
theorem flags_set {listed : Array Bool} {i : Nat} (h : i < listed.size) : flags (listed.setIfInBounds i true) = upd (flags listed) i := by
  funext k
  unfold flags upd
  by_cases e : i = k
  · subst e; simp [h]
  · rw [getD_set_ne false e]
    have : (k == i) = false := by simpa using fun h => e h.symm
    rw [this, Bool.or_false]

def cnt (g : Nat → Bool) : Nat → Nat
  | 0 => 0
  | n + 1 => cnt g n + if g n then 0 else 1
theorem cnt_ge (g : Nat → Bool) (i : Nat) : ∀ n, n ≤ i → cnt (upd g i) n = cnt g n := by
  intro n
  induction n with
  | zero => intro _; rfl
  | succ n ih =>
    intro h
    have e : upd g i n = g n := by unfold upd; rw [show (n == i) = false by simp; omega, Bool.or_false]
    unfold cnt; rw [ih (by omega), e]
theorem cnt_upd (g : Nat → Bool) (i : Nat) (hg : g i = false) : ∀ n, i < n → cnt (upd g i) n + 1 = cnt g n := by
  intro n
  induction n with
  | zero => intro h; omega
  | succ n ih =>
    intro h
    unfold cnt
    by_cases e : i = n
    · subst e
      have e1 : upd g i i = true := by unfold upd; simp
      rw [cnt_ge g i i (Nat.le_refl _), e1, hg]; simp
    · have e1 : upd g i n = g n := by unfold upd; rw [show (n == i) = false by simp; omega, Bool.or_false]
      rw [e1, ← ih (by omega)]; omega
theorem cnt_zero (g : Nat → Bool) : ∀ n, cnt g n = 0 → ∀ k, k < n → g k = true := by
  intro n
  induction n with
  | zero => intro _ k hk; omega
  | succ n ih =>
    intro h k hk
    unfold cnt at h
    by_cases e : k = n
    · subst e
      cases hg : g k
      · rw [hg] at h; simp at h
      · rfl
    · exact ih (by omega) k (by omega)
theorem cnt_false : ∀ n, cnt (fun _ => false) n = n := by
  intro n
  induction n with
  | zero => rfl
  | succ n ih => unfold cnt; rw [ih]; simp

theorem ready_none {md : Region.Mode} {ops : Array Oper} {listed : Array Bool} (hb : backB ops = true) (hs : listed.size = ops.size) (h : Region.ready md ops listed = []) :
    ∀ k, k < ops.size → flags listed k = true := by
  intro k
  induction k using Nat.strongRecOn with
  | ind k ih =>
    intro hk
    cases hf : flags listed k with
    | true => rfl
    | false =>
      exfalso
      have ho : ops[k]? = some ops[k] := Array.getElem?_eq_getElem hk
      have hm : k ∈ Region.ready md ops listed := by
        rw [mem_ready]
        refine ⟨?_, ops[k], ho, fun e he _ => ?_⟩
        · have hl : k < listed.size := by omega
          unfold flags at hf
          simpa [hl] using hf
        · have := backB_spec hb ho e he
          exact ih e.on this (by omega)
      rw [h] at hm
      cases hm

section
variable {P : Program} {ops : Array Oper} {Q : Exit → Act → World → Prop} {md : Region.Mode}
theorem wpAny_inv (I : (Nat → Bool) → Act → World → Prop) (hb : backB ops = true)
    (step : ∀ (i : Nat), i < ops.size → ∀ (f : Nat → Bool) (a : Act) (w : World), f i = false → (∀ o, ops[i]? = some o → ∀ e ∈ o.after, Region.binds md e = true → f e.on = true) → I f a w → wpOp P ops Q i (I (upd f i)) a w)
    (done : ∀ (f : Nat → Bool) (a : Act) (w : World), (∀ k, k < ops.size → f k = true) → I f a w → Q .normal a w) :
    ∀ (fuel : Nat) (listed : Array Bool) (a : Act) (w : World), listed.size = ops.size → cnt (flags listed) ops.size ≤ fuel → I (flags listed) a w → wpAny P md ops Q fuel listed a w := by
  intro fuel
  induction fuel with
  | zero =>
    intro listed a w hs hc hI
    have hall := cnt_zero (flags listed) ops.size (by omega)
    refine ⟨?_, done _ _ _ hall hI⟩
    cases hr : Region.ready md ops listed with
    | nil => rfl
    | cons x xs =>
      exfalso
      have hm : x ∈ Region.ready md ops listed := by rw [hr]; exact List.mem_cons_self
      obtain ⟨h0, o, ho, -⟩ := mem_ready.1 hm
      have hx : x < ops.size := (Array.getElem?_eq_some_iff.1 ho).1
      have h1 := hall x hx
      unfold flags at h1
      have hl : x < listed.size := by omega
      simp [hl] at h0 h1
      rw [h0] at h1; cases h1
  | succ fuel ih =>
    intro listed a w hs hc hI
    refine ⟨fun h => done _ _ _ (ready_none hb hs h) hI, fun i hi => ?_⟩
    obtain ⟨h0, o, ho, hall⟩ := mem_ready.1 hi
    have hlt : i < ops.size := (Array.getElem?_eq_some_iff.1 ho).1
    have hl : i < listed.size := by omega
    have hf : flags listed i = false := by unfold flags; simpa [hl] using h0
    refine wpOp_mono (fun a' w' h => ?_) (step i hlt (flags listed) a w hf (fun o' ho' e he hb' => by
      obtain rfl := Option.some.inj (ho.symm.trans ho'); exact hall e he hb') hI)
    refine ih (listed.setIfInBounds i true) a' w' (by simpa using hs) ?_ (by rw [flags_set hl]; exact h)
    rw [flags_set hl]
    have := cnt_upd (flags listed) i hf ops.size hlt
    omega

/-- A REGION THAT DRAWS, BY AN INVARIANT -/
theorem wp_region_inv {id : Nat} {a : Act} {w : World} (hm : P.follows .mixedOrders = true) (hb : backB ops = true) (I : (Nat → Bool) → Act → World → Prop)
    (start : I (fun _ => false) a w.drew)
    (step : ∀ (i : Nat), i < ops.size → ∀ (f : Nat → Bool) (a : Act) (w : World), f i = false → (∀ o, ops[i]? = some o → ∀ e ∈ o.after, Region.binds .any e = true → f e.on = true) → I f a w → wpOp P ops Q i (I (upd f i)) a w)
    (done : ∀ (f : Nat → Bool) (a : Act) (w : World), (∀ k, k < ops.size → f k = true) → I f a w → Q .normal a w) : (Code.region id ops true).wp P Q a w := by
  refine wp_region_any hm ?_
  have hfl : flags (Array.replicate ops.size false) = fun _ => false := by
    funext k
    unfold flags
    by_cases hk : k < ops.size
    · simp [hk]
    · simp [hk]
  exact wpAny_inv I hb step done ops.size _ a w.drew (by simp) (by rw [hfl, cnt_false]; exact Nat.le_refl _) (by rw [hfl]; exact start)

/-- the operations for which number i waits -/
def waits (ops : Array Oper) (i : Nat) : List Nat := ((ops[i]?).map fun o => (o.after.toList.filter (Region.binds .any)).map (·.on)).getD []
theorem waits_of {i : Nat} {f : Nat → Bool} (h : ∀ o, ops[i]? = some o → ∀ e ∈ o.after, Region.binds .any e = true → f e.on = true) : (waits ops i).all f = true := by
  unfold waits
  cases ho : ops[i]? with
  | none => rfl
  | some o =>
    simp only [Option.map_some, Option.getD_some, List.all_eq_true, List.mem_map, List.mem_filter]
    rintro k ⟨e, ⟨he, hb⟩, rfl⟩
    exact h o ho e (by simpa using he) hb

/-- an operation without a guard -/
theorem wpOp_of {i : Nat} {o : Oper} {a : Act} {w : World} {K : Act → World → Prop} (ho : ops[i]? = some o) (hg : o.guard = none) (h : ∀ K' : Act → World → Prop, (∀ a w, K a w → K' a w) → o.wp P a w K' Q) : wpOp P ops Q i K a w := by
  unfold wpOp
  rw [ho]
  simp only [Region.wanted, hg, if_true]
  exact .inl (h K fun _ _ h => h)
end
end Go.Proofs.Ytmbmpghfidcnhaa.rinv
