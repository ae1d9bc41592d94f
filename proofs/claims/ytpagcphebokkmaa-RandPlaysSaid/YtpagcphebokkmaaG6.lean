/- What is asked of a generator: the argument opened; a generator and the document's state, side by side. -/
import Derived.Test.YtpagcphebokkmaaG5
import Derived.Deep.SlicePairs
namespace Go.Proofs.Ytpagcphebokkmaa.rnd
open Go.ChangeShapes Go.WideShapes Go.ChangeAt Go.RowKit
open Go.Proofs.Ytpagcphebokkmaa.fns Go.Proofs.Ytpagcphebokkmaa.ints

/-- a slice of asks: kinds and numbers -/
def Asks (w : World) (a : Option Addr) (n cap : Nat) (K N : Nat → Int) : Prop :=
  n ≤ cap ∧ cap ≤ maxLen ∧ (0 < n → ∃ b off, a = some ⟨b, off, none⟩ ∧ b < w.heap.size ∧
    ∀ i, i < n → w.cell? ⟨b, off + i * 2, none⟩ = some (.int .i64 (K i)) ∧ w.cell? ⟨b, off + i * 2 + 1, none⟩ = some (.int .i64 (N i)) ∧ -9223372036854775808 ≤ N i ∧ N i ≤ 9223372036854775807)
theorem cells_ask : Try.prog.cellsOf 30 = 2 := by kernel_rfl
theorem cells_int : Try.prog.cellsOf 3 = 1 := by kernel_rfl
theorem asks_open {H : Type} {enc : TypeId × Value → H} {W : World} {a : Option Addr} {n cap : Nat} {d : DataW H} {p : List MemPlace}
    (h : DataW.Trod enc Try.prog W 0 (fun _ => true) true 23 (.slice a n cap) d p) : ∃ K N, Asks W a n cap K N ∧ (a = none → n = 0 ∧ cap = 0) := by
  obtain ⟨fuel, hf⟩ := h
  rcases Deep.open_slice_pairs Try.underlying23 Try.underlying30 cells_ask rfl rfl cells_int cells_int hf with ⟨hcs, _⟩ | ⟨x, l, c, m, fu, V0, V1, D0, D1, P0, P1, hcs, _, hl, hm, hmm, _, hcell⟩
  · simp [Value.cells] at hcs
    obtain ⟨rfl, rfl, rfl⟩ := hcs
    exact ⟨fun _ => 0, fun _ => 0, ⟨Nat.le_refl _, by unfold maxLen; omega, fun h => by omega⟩, fun _ => ⟨rfl, rfl⟩⟩
  · simp [Value.cells] at hcs
    obtain ⟨rfl, rfl, rfl⟩ := hcs
    simp only [if_true] at hmm
    have each : ∀ i, i < n → ∃ q : Int × Int, V0 i = .int .i64 q.1 ∧ V1 i = .int .i64 q.2 ∧ -9223372036854775808 ≤ q.2 ∧ q.2 ≤ 9223372036854775807 := by
      intro i hi
      obtain ⟨-, -, g0, g1⟩ := hcell i (by omega)
      obtain ⟨k, e0, -, -⟩ := DataW.trod_int Try.underlying3 g0
      obtain ⟨z, e1, -, wz⟩ := DataW.trod_int Try.underlying3 g1
      have hb := bounds_i64 wz
      exact ⟨(k, z), by simpa using e0, by simpa using e1, hb.1, hb.2⟩
    obtain ⟨q, hq⟩ := Deep.choose_lt each
    refine ⟨fun i => (q i).1, fun i => (q i).2, ⟨hl, hm, fun hp => ?_⟩, fun h => by cases h⟩
    obtain ⟨b, off, spot⟩ := x
    have hc := (hcell 0 (by omega)).1
    have hspot : spot = none := by simpa [Addr.add] using World.cell?_spot hc
    subst hspot
    refine ⟨b, off, rfl, ?_, fun i hi => ?_⟩
    · have := World.block_lt_of_cell? W _ hc
      simpa [Addr.add] using this
    · obtain ⟨h0, h1, -, -⟩ := hcell i (by omega)
      obtain ⟨e0, e1, e2, e3⟩ := hq i hi
      rw [addr_add, e0] at h0
      rw [addr_add, e1] at h1
      exact ⟨h0, by rw [Nat.add_assoc]; exact h1, e2, e3⟩
theorem Asks.less {w : World} {a : Option Addr} {n m cap : Nat} {K N : Nat → Int} (h : Asks w a n cap K N) (hm : m ≤ n) : Asks w a m cap K N := by
  obtain ⟨h1, h2, h3⟩ := h
  refine ⟨by omega, h2, fun hp => ?_⟩
  obtain ⟨b, off, ha, hlt, hc⟩ := h3 (by omega)
  exact ⟨b, off, ha, hlt, fun i hi => hc i (by omega)⟩

/-- a generator at g, the document's state at h -/
structure Pr (W w : World) (g h : Nat) (x y : Int) : Prop where
  gen : One w g (.int .u64 x)
  st : One w h (.int .u64 y)
  ne : g ≠ h
  hg : W.heap.size ≤ g
  hh : W.heap.size ≤ h
  bel : Below W.heap.size W w
theorem Pr.on {W w w' : World} {g h : Nat} {x y : Int} (p : Pr W w g h x y) (hb : Below w.heap.size w w') : Pr W w' g h x y :=
  ⟨p.gen.on hb p.gen.lt, p.st.on hb p.st.lt, p.ne, p.hg, p.hh, p.bel.trans (hb.mono p.bel.size)⟩
theorem Pr.alloc {W w : World} {g h : Nat} {x y : Int} (p : Pr W w g h x y) (o : Obj) : Pr W (w.alloc o) g h x y :=
  p.on ((Below.refl _ _).alloc (Nat.le_refl _) o)
theorem Pr.setH {W w : World} {g h : Nat} {x y : Int} (p : Pr W w g h x y) (y' : Int) : Pr W (w.setCell ⟨h, 0, none⟩ (.int .u64 y')) g h x y' :=
  ⟨p.gen.other p.ne _, p.st.set, p.ne, p.hg, p.hh, p.bel.setCell p.hh _⟩
theorem Pr.setG {W w : World} {g h : Nat} {x y : Int} (p : Pr W w g h x y) (x' : Int) : Pr W (w.setCell ⟨g, 0, none⟩ (.int .u64 x')) g h x' y :=
  ⟨p.gen.set, p.st.other (fun e => p.ne e.symm) _, p.ne, p.hg, p.hh, p.bel.setCell p.hg _⟩
theorem Pr.but {W w w' : World} {g h : Nat} {x y x' : Int} (p : Pr W w g h x y) (hb : But g w w') (ho : One w' g (.int .u64 x')) : Pr W w' g h x' y :=
  ⟨ho, hb.one p.st (fun e => p.ne e.symm), p.ne, p.hg, p.hh, p.bel.trans (hb.below p.hg p.bel.size)⟩
theorem Pr.clone {W w : World} {g h : Nat} {x y : Int} (p : Pr W w g h x y) (x' z : Int) (t : TypeId) :
    Pr W ((w.alloc (.cells #[.int .u64 z] t)).setCell ⟨g, 0, none⟩ (.int .u64 x')) w.heap.size h z y := by
  have h1 := p.gen.lt
  have h2 := p.st.lt
  have q := (p.alloc (.cells #[.int .u64 z] t)).setG x'
  exact ⟨(one_new w _ t).other (by omega) _, q.st, by omega, p.bel.size, q.hh, q.bel⟩

/-- the number that a statement puts in another's place -/
def cutN (n : Int) : Int := if 300 < n ∧ n ≤ 100000 then n % 300 else n
theorem cutN_yes {n : Int} (h1 : 300 < n) (h2 : n ≤ 100000) : cutN n = n % 300 := by unfold cutN; rw [if_pos ⟨h1, h2⟩]
theorem cutN_no {n : Int} (h : ¬ (300 < n ∧ n ≤ 100000)) : cutN n = n := by unfold cutN; rw [if_neg h]
theorem cutN_bd {n : Int} (h : -9223372036854775808 ≤ n ∧ n ≤ 9223372036854775807) : -9223372036854775808 ≤ cutN n ∧ cutN n ≤ 9223372036854775807 := by
  unfold cutN; split <;> omega
end Go.Proofs.Ytpagcphebokkmaa.rnd
