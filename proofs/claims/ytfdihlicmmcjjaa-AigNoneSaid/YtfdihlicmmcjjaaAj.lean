/- What the project's store is good for, and the document's beside it. -/
import Derived.Test.YtfdihlicmmcjjaaAa
import Derived.Test.YtfdihlicmmcjjaaAo
namespace Go.Proofs.Ytfdihlicmmcjjaa.aig
open Go.RowKit
open Go.Proofs.Ytfdihlicmmcjjaa.mem Go.Proofs.Ytfdihlicmmcjjaa.agf

/-- the project's store: what it owns, what it reads as, and what its methods do -/
structure Proj where
  σ : Type
  own : Nat → σ → Nat → Prop
  rep : Nat → World → Nat → σ → Net → Prop
  ge : ∀ {A : Nat} {w : World} {g : Nat} {s : σ} {N : Net}, rep A w g s N → ∀ k, own g s k → A ≤ k ∧ k < w.heap.size
  keep : ∀ {A : Nat} {w w' : World} {g : Nat} {s : σ} {N : Net} {P : Nat → Prop}, rep A w g s N → Only P w w' → (∀ k, own g s k → ¬ P k) → rep A w' g s N
  new : ∀ (A : Nat) (w : World), A ≤ w.heap.size → Calls Try.prog 17 #[] w fun e w' => ∃ g s, e = .returned (.pointer (some ⟨g, 0, none⟩)) ∧ rep A w' g s [] ∧ (∀ k, own g s k → w.heap.size ≤ k) ∧ Below w.heap.size w w'
  input : ∀ (A g : Nat) (s : σ) (N : Net) (w : World), rep A w g s N → N.length ≤ 900000 →
    Calls Try.prog 20 #[.pointer (some ⟨g, 0, none⟩)] w fun e w' => ∃ s', e = .returned (.int .i64 (inF N).1) ∧ rep A w' g s' (inF N).2 ∧ Moved (own g s) (own g s') w w'
  and_ : ∀ (A g : Nat) (s : σ) (N : Net) (a b : Int) (w : World), rep A w g s N → N.length ≤ 900000 → In64 a → In64 b →
    Calls Try.prog 30 #[.pointer (some ⟨g, 0, none⟩), .int .i64 a, .int .i64 b] w fun e w' => ∃ s', e = .returned (.int .i64 (andF N a b).1) ∧ rep A w' g s' (andF N a b).2 ∧ Moved (own g s) (own g s') w w'
  or_ : ∀ (A g : Nat) (s : σ) (N : Net) (a b : Int) (w : World), rep A w g s N → N.length ≤ 900000 → In64 a → In64 b →
    Calls Try.prog 25 #[.pointer (some ⟨g, 0, none⟩), .int .i64 a, .int .i64 b] w fun e w' => ∃ s', e = .returned (.int .i64 (orF N a b).1) ∧ rep A w' g s' (orF N a b).2 ∧ Moved (own g s) (own g s') w w'
  xor : ∀ (A g : Nat) (s : σ) (N : Net) (a b : Int) (w : World), rep A w g s N → N.length ≤ 900000 → In64 a → In64 b →
    Calls Try.prog 26 #[.pointer (some ⟨g, 0, none⟩), .int .i64 a, .int .i64 b] w fun e w' => ∃ s', e = .returned (.int .i64 (xorF N a b).1) ∧ rep A w' g s' (xorF N a b).2 ∧ Moved (own g s) (own g s') w w'
  mux : ∀ (A g : Nat) (s : σ) (N : Net) (c a b : Int) (w : World), rep A w g s N → N.length ≤ 900000 → In64 c → In64 a → In64 b →
    Calls Try.prog 27 #[.pointer (some ⟨g, 0, none⟩), .int .i64 c, .int .i64 a, .int .i64 b] w fun e w' => ∃ s', e = .returned (.int .i64 (muxF N c a b).1) ∧ rep A w' g s' (muxF N c a b).2 ∧ Moved (own g s) (own g s') w w'
  all : ∀ (A g : Nat) (s : σ) (N : Net) (v : Value) (zs : List Int) (w : World), rep A w g s N → KInts (own g s) w v zs → N.length ≤ 900000 → zs.length ≤ 1000 →
    Calls Try.prog 31 #[.pointer (some ⟨g, 0, none⟩), v] w fun e w' => ∃ s', e = .returned (.int .i64 (allF N zs).1) ∧ rep A w' g s' (allF N zs).2 ∧ Moved (own g s) (own g s') w w'
  copy : ∀ (A g : Nat) (s : σ) (N : Net) (nv v : Value) (ns : List (Int × Int)) (zs : List Int) (w : World), rep A w g s N → KNds (own g s) w nv ns → GoodN ns → KInts (own g s) w v zs → N.length ≤ 900000 → ns.length ≤ 1000 → zs.length ≤ 1000 →
    Calls Try.prog 24 #[.pointer (some ⟨g, 0, none⟩), nv, v] w fun e w' => ∃ s' u, e = .returned u ∧ rep A w' g s' (copyF N (ns.map absN) zs).2 ∧ Moved (own g s) (own g s') w w' ∧ LRow w.heap.size (own g s') w' u (copyF N (ns.map absN) zs).1
  net : ∀ (A g : Nat) (s : σ) (N : Net) (w : World), rep A w g s N → N.length ≤ 900000 →
    Calls Try.prog 23 #[.pointer (some ⟨g, 0, none⟩)] w fun e w' => ∃ u ms, e = .returned u ∧ KNds (fun k => k < w.heap.size) w' u ms ∧ ms.length = N.length ∧ (∀ i, i < N.length → SameN (ms.getD i (0, 0)) ((N.map conc).getD i (0, 0))) ∧ Below w.heap.size w w'
  len : ∀ (A g : Nat) (s : σ) (N : Net) (w : World), rep A w g s N →
    Calls Try.prog 22 #[.pointer (some ⟨g, 0, none⟩)] w fun e w' => e = .returned (.int .i64 N.length) ∧ w = w'
  clone : ∀ (A g : Nat) (s : σ) (N : Net) (w : World), rep A w g s N → N.length ≤ 900000 →
    Calls Try.prog 19 #[.pointer (some ⟨g, 0, none⟩)] w fun e w' => ∃ g' s', e = .returned (.pointer (some ⟨g', 0, none⟩)) ∧ rep A w' g' s' N ∧ (∀ k, own g' s' k → w.heap.size ≤ k) ∧ Below w.heap.size w w'

variable (J : Proj)
theorem only_below {w w' : World} (h : Below w.heap.size w w') : Only (fun _ => False) w w' := ⟨h.os, h.tape, h.output, h.size, fun k hk _ => h.block k hk⟩
/-- both stores, side by side -/
structure Two (A : Nat) (w : World) (g : Nat) (s : J.σ) (N : Net) (h : Nat) (sv : Value) (M : Net) : Prop where
  pr : J.rep A w g s N
  rf : ∃ B, Rs A B w h sv M
  ap : ∀ k, J.own g s k → ¬ ROwn h sv k
variable {J} {A : Nat} {w w' : World} {g h : Nat} {s s' : J.σ} {sv sv' : Value} {N N' M M' : Net}
theorem Two.on (t : Two J A w g s N h sv M) (hb : Below w.heap.size w w') : Two J A w' g s N h sv M := by
  obtain ⟨B, hr⟩ := t.rf
  exact ⟨J.keep t.pr (only_below hb) (fun _ _ e => e), ⟨B, hr.on hb⟩, t.ap⟩
theorem Two.drewN (t : Two J A w g s N h sv M) (q : Nat) : Two J A (w.drewN q) g s N h sv M := t.on (below_drewN (Below.refl _ _) q)
theorem Two.first (t : Two J A w g s N h sv M) (p : J.rep A w' g s' N') (m : Moved (J.own g s) (J.own g s') w w') : Two J A w' g s' N' h sv M := by
  obtain ⟨B, hr⟩ := t.rf
  refine ⟨p, ⟨B, hr.only m.only (fun k hk e => t.ap k e hk)⟩, fun k hk e => ?_⟩
  rcases m.own k hk with x | x
  · exact t.ap k x e
  · have := (hr.ge k e).2; omega
theorem Two.second (t : Two J A w g s N h sv M) {B : Nat} (p : Rs A B w' h sv' M') (m : Moved (ROwn h sv) (ROwn h sv') w w') : Two J A w' g s N h sv' M' := by
  refine ⟨J.keep t.pr m.only t.ap, ⟨B, p⟩, fun k hk e => ?_⟩
  rcases m.own k e with x | x
  · exact t.ap k hk x
  · have := (J.ge t.pr k hk).2; omega
theorem Two.ge (t : Two J A w g s N h sv M) : (∀ k, J.own g s k → A ≤ k) ∧ ∀ k, ROwn h sv k → A ≤ k := by
  obtain ⟨B, hr⟩ := t.rf
  exact ⟨fun k hk => (J.ge t.pr k hk).1, fun k hk => (hr.ge k hk).1⟩
theorem KInts.arg {P : Nat → Prop} {W w : World} {v : Value} {zs : List Int} (k : KInts (New W) W v zs) (hb : Below W.heap.size W w) (hP : ∀ i, P i → W.heap.size ≤ i) : KInts P w v zs := by
  obtain ⟨a, cap, hv, h1, h2, h3⟩ := k
  refine ⟨a, cap, hv, h1, h2, fun hp => ?_⟩
  obtain ⟨b, off, ha, hlt, hn, hc⟩ := h3 hp
  exact ⟨b, off, ha, Nat.lt_of_lt_of_le hlt hb.size, fun e => hn (hP b e), fun i hi => (hb.cell (p := ⟨b, off + i, none⟩) hlt).trans (hc i hi)⟩
theorem KNds.arg {P : Nat → Prop} {W w : World} {v : Value} {ns : List (Int × Int)} (k : KNds (New W) W v ns) (hb : Below W.heap.size W w) (hP : ∀ i, P i → W.heap.size ≤ i) : KNds P w v ns := by
  obtain ⟨a, cap, hv, h1, h2, h3⟩ := k
  refine ⟨a, cap, hv, h1, h2, fun hp => ?_⟩
  obtain ⟨b, off, ha, hlt, hn, hc⟩ := h3 hp
  exact ⟨b, off, ha, Nat.lt_of_lt_of_le hlt hb.size, fun e => hn (hP b e), fun i hi => ⟨(hb.cell (p := ⟨b, off + i * 2, none⟩) hlt).trans (hc i hi).1, (hb.cell (p := ⟨b, off + i * 2 + 1, none⟩) hlt).trans (hc i hi).2⟩⟩
/-- what a step does to a store -/
def stepF (N : Net) (d : AskD) : Net :=
  if d.kd = 0 then (inF N).2 else if d.kd = 1 then (andF N d.a d.b).2 else if d.kd = 2 then (orF N d.a d.b).2 else if d.kd = 3 then (xorF N d.a d.b).2
  else if d.kd = 4 then (muxF N d.a d.b d.c).2 else if d.kd = 5 then (allF N d.l).2 else if d.kd = 7 then (copyF N (d.n.map absN) d.l).2 else N
/-- whether two stores tell the same -/
def stepB (N M : Net) (d : AskD) : Bool :=
  if d.kd = 0 then (inF N).1 == (inF M).1 else if d.kd = 1 then (andF N d.a d.b).1 == (andF M d.a d.b).1 else if d.kd = 2 then (orF N d.a d.b).1 == (orF M d.a d.b).1 else if d.kd = 3 then (xorF N d.a d.b).1 == (xorF M d.a d.b).1
  else if d.kd = 4 then (muxF N d.a d.b d.c).1 == (muxF M d.a d.b d.c).1 else if d.kd = 5 then (allF N d.l).1 == (allF M d.l).1 else if d.kd = 7 then decide ((copyF N (d.n.map absN) d.l).1 = (copyF M (d.n.map absN) d.l).1) else true
theorem stepB_same (N : Net) (d : AskD) : stepB N N d = true := by
  unfold stepB
  repeat (split; · simp)
  rfl
/-- how a step leaves both -/
def Stepped (J : Proj) (A g : Nat) (N : Net) (h : Nat) (M : Net) (d : AskD) (w : World) (e : Ending) (w' : World) : Prop :=
  ∃ s' sv', e = .returned (.bool (stepB N M d)) ∧ Two J A w' g s' (stepF N d) h sv' (stepF M d) ∧ Below A w w'
end Go.Proofs.Ytfdihlicmmcjjaa.aig
