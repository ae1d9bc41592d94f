/- Slices that read as numbers: the readings, an argument opened, the copy by append, the document's comparison. -/
import Derived.Test.YtoacedadfjoneaaProg
import Derived.WalkKit
import Derived.Handy
import Derived.Outline
import Derived.OwnWalk
import Derived.Below
import Derived.WalkSmall
import Derived.ProofKit
import Derived.OpenShut
import Derived.ChangeOld
import Derived.Lib.Hide
import Derived.Lib.OwnBridge
import Derived.Laws.AppendOwnNone
import Derived.Deep.QuietTactic
import Derived.BigQuiet
namespace Go.Proofs.Ytoacedadfjoneaa.ints
open Go.ChangeShapes Go.WideShapes Go.ChangeAt Go.RowKit

theorem retI {k : IntKind} {a b : Int} (h : a = b) : Ending.returned (.int k a) = .returned (.int k b) := by rw [h]
theorem retB {a b : Bool} (h : a = b) : Ending.returned (.bool a) = .returned (.bool b) := by rw [h]
theorem below_drewN {B : Nat} {w w' : World} (h : Below B w w') (n : Nat) : Below B w (w'.drewN n) :=
  ⟨h.os, h.tape, h.output, h.size, h.block⟩
theorem below_of {P : Program} {f : FuncId} {args : Array Value} {w : World} {v : Value} (h : Calls P f args w fun e w' => e = .returned v ∧ w = w') :
    Calls P f args w fun e w' => e = .returned v ∧ Below w.heap.size w w' := h.mono fun _ _ ⟨h1, h2⟩ => ⟨h1, h2 ▸ Below.refl _ _⟩

/-- v is a slice that reads as these numbers -/
def Ints (w : World) (v : Value) (zs : List Int) : Prop :=
  ∃ (a : Option Addr) (cap : Nat), v = .slice a zs.length cap ∧ zs.length ≤ cap ∧ cap ≤ maxLen ∧
    (0 < zs.length → ∃ b off, a = some ⟨b, off, none⟩ ∧ b < w.heap.size ∧ ∀ i, i < zs.length → w.cell? ⟨b, off + i, none⟩ = some (.int .i64 (zs.getD i 0)))
theorem Ints.on {w w' : World} {v : Value} {zs : List Int} (h : Ints w v zs) (hb : Below w.heap.size w w') : Ints w' v zs := by
  obtain ⟨a, cap, hv, h1, h2, h3⟩ := h
  refine ⟨a, cap, hv, h1, h2, fun hp => ?_⟩
  obtain ⟨b, off, ha, hlt, hc⟩ := h3 hp
  exact ⟨b, off, ha, Nat.lt_of_lt_of_le hlt hb.size, fun i hi => (hb.cell (p := ⟨b, off + i, none⟩) hlt).trans (hc i hi)⟩
theorem ints_of_owned {w : World} {B : Nat} {v : Value} {zs : List Int} (h : w.ownsRow B 3 1 v zs.length (zs.map (Value.int .i64))) : Ints w v zs := by
  rcases h.2 with ⟨rfl, h0⟩ | ⟨g, cap, cur, rfl, hb, hg, hn, hm, hs, ht⟩
  · exact ⟨none, 0, by rw [h0], by omega, by unfold maxLen; omega, fun hp => by omega⟩
  · refine ⟨some ⟨g, 0, none⟩, cap, rfl, hn, hm, fun hp => ⟨g, 0, rfl, (Array.getElem?_eq_some_iff.1 hg).1, fun i hi => ?_⟩⟩
    rw [Nat.zero_add, h.cellAt i (by omega), List.getElem?_map, List.getElem?_eq_getElem hi]
    simp [List.getD, hi]
theorem ints_empty (w : World) (a : Option Addr) (cap : Nat) (h : cap ≤ maxLen) : Ints w (.slice a 0 cap) [] := ⟨a, cap, rfl, Nat.zero_le _, h, fun hp => by simp at hp⟩
theorem ints_take {w : World} {a : Option Addr} {n cap k : Nat} {ls : List Int} (h : Ints w (.slice a n cap) ls) (hk : k ≤ n) : Ints w (.slice a k cap) (ls.take k) := by
  obtain ⟨a', cap', hv, h1, h2, h3⟩ := h
  obtain ⟨rfl, e1, rfl⟩ := Value.slice.inj hv
  have hl : (ls.take k).length = k := by rw [List.length_take]; omega
  refine ⟨a, cap, by rw [hl], by omega, h2, fun hp => ?_⟩
  obtain ⟨b, off, ha, hlt, hc⟩ := h3 (by omega)
  refine ⟨b, off, ha, hlt, fun i hi => ?_⟩
  rw [hl] at hi
  rw [hc i (by omega)]
  simp [List.getD, hi]
theorem ints_len_of {w : World} {a : Option Addr} {n cap : Nat} {ls : List Int} (h : Ints w (.slice a n cap) ls) : ls.length = n ∧ n ≤ cap ∧ cap ≤ maxLen := by
  obtain ⟨a', cap', hv, h1, h2, -⟩ := h
  obtain ⟨-, e1, rfl⟩ := Value.slice.inj hv
  exact ⟨e1.symm, by omega, h2⟩
theorem ints_cell {w : World} {a : Option Addr} {n cap : Nat} {ls : List Int} (h : Ints w (.slice a n cap) ls) {k : Nat} (hk : k < n) :
    ∃ b off, a = some ⟨b, off, none⟩ ∧ b < w.heap.size ∧ w.cell? ⟨b, off + k, none⟩ = some (.int .i64 (ls.getD k 0)) := by
  have hl := (ints_len_of h).1
  obtain ⟨a', cap', hv, h1, h2, h3⟩ := h
  obtain ⟨rfl, e1, rfl⟩ := Value.slice.inj hv
  obtain ⟨b, off, ha, hlt, hc⟩ := h3 (by omega)
  exact ⟨b, off, ha, hlt, hc k (by omega)⟩
theorem getD_of {r : List Int} {i : Nat} (h : i < r.length) : r.getD i 0 = r[i] := by simp [List.getD, h]

theorem infoInt : (Try.prog.info? 3).map (fun i => (i.zero, i.size, i.bytes)) = some (some (.int .i64 0), 1, 8) := by kernel_rfl
theorem laidOut : laidOutB Try.prog = true := by kernel_rfl
theorem addr_add (b off j : Nat) : (⟨b, off, none⟩ : Addr).add j = ⟨b, off + j, none⟩ := by unfold Addr.add; split <;> simp_all

/-- an argument that is a slice of numbers, opened -/
theorem ints_open {H : Type} {enc : TypeId × Value → H} {W : World} {a : Option Addr} {n cap : Nat} {d : DataW H} {p : List MemPlace}
    (h : DataW.Trod enc Try.prog W 0 (fun _ => true) true 23 (.slice a n cap) d p) : ∃ ls, Ints W (.slice a n cap) ls ∧ (a = none → n = 0 ∧ cap = 0) := by
  obtain ⟨fuel, hf⟩ := h
  rcases open_ints Try.underlying23 Try.underlying3 (by kernel_rfl) hf with ⟨hcs, _⟩ | ⟨x, l, c, zs, hcs, _, hl, hm, hzl, _, hcell, _⟩
  · simp [Value.cells] at hcs
    obtain ⟨rfl, rfl, rfl⟩ := hcs
    exact ⟨[], ints_empty _ _ _ (by unfold maxLen; omega), fun _ => ⟨rfl, rfl⟩⟩
  · simp [Value.cells] at hcs
    obtain ⟨rfl, rfl, rfl⟩ := hcs
    simp only [if_true] at hzl
    have ht : (zs.take n).length = n := by rw [List.length_take]; omega
    refine ⟨zs.take n, ⟨some x, cap, by rw [ht], by omega, hm, fun hp => ?_⟩, fun h => by cases h⟩
    rw [ht] at hp
    obtain ⟨b, off, spot⟩ := x
    have hc := hcell 0 (by omega)
    have hspot : spot = none := by simpa [Addr.add] using World.cell?_spot hc
    subst hspot
    refine ⟨b, off, rfl, ?_, fun i hi => ?_⟩
    · have := World.block_lt_of_cell? W _ hc
      simpa [Addr.add] using this
    · rw [ht] at hi
      have := hcell i (by omega)
      rw [addr_add] at this
      rw [this]
      simp [List.getD, hi]

theorem news_of {w w' : World} {ad : Addr} {n cap : Nat} {ls : List Int} (h : Ints w (.slice (some ad) n cap) ls) (hb : Below w.heap.size w w') :
    ∀ (j : Nat) (u : Value), (ls.map (Value.int .i64))[j]? = some u → w'.cell? (ad.add j) = some u := by
  intro j u hj
  obtain ⟨a, cap', hv, h1, h2, h3⟩ := h
  obtain ⟨rfl, -⟩ := Value.slice.inj hv
  have hl := (List.getElem?_eq_some_iff.1 hj).1
  rw [List.length_map] at hl
  obtain ⟨b, off, ha, hlt, hc⟩ := h3 (by omega)
  obtain rfl := Option.some.inj ha
  rw [addr_add, (hb.cell (p := ⟨b, off + j, none⟩) hlt), hc j hl]
  rw [List.getElem?_map, List.getElem?_eq_getElem hl] at hj
  simp only [Option.map_some, Option.some.injEq] at hj
  rw [← hj]
  simp [List.getD, hl]

/-- 'append([]int{}, l...)': a slice of its own that reads as l does -/
theorem wpList_clone {ops : Array Oper} {rest : List Oper} {o : Oper} {act : Act} {Q : Exit → Act → World → Prop} (w : World) (hgd : Region.wanted o (yielded ops act.tmps) = true) (s x : Operand)
    (ho : o.op = .call { callee := .builtin .append, args := #[s, x], argTypes := #[23, 23] })
    (hs : act.eval s = .slice (some ⟨w.heap.size, 0, none⟩) 0 0) (a : Option Addr) (n cap : Nat) (ls : List Int) (hx : act.eval x = .slice a n cap)
    (hv : Ints w (.slice a n cap) ls) (hnil : a = none → n = 0 ∧ cap = 0) (hsz : n * 8 ≤ 140737488355328)
    (h : ∀ v' w', Ints w' v' ls → Below w.heap.size w w' → wpList Try.prog ops Q rest (act.put o.dst v') w') :
    wpList Try.prog ops Q (o :: rest) act (w.alloc (.cells #[] 3)) := by
  obtain ⟨i0, hi, hz0, hz1, hz2⟩ := info_parts infoInt
  have hmade : (w.alloc (.cells #[] 3)).ownsRow w.heap.size 3 1 (.slice (some ⟨w.heap.size, 0, none⟩) 0 0) 0 [] := World.ownsRow_made _ #[] 0 (Nat.le_refl _) (by unfold maxLen; omega) rfl
  have hb0 : Below w.heap.size w (w.alloc (.cells #[] 3)) := (Below.refl _ w).alloc (Nat.le_refl _) _
  obtain ⟨hlen, hcap, hmax⟩ := ints_len_of hv
  unfold maxLen at hmax
  refine wpList_step fun K hK => ?_
  rw [if_pos hgd]
  cases a with
  | none =>
    obtain ⟨rfl, rfl⟩ := hnil rfl
    obtain rfl : ls = [] := List.length_eq_zero_iff.1 hlen
    have hrun := run_append_owned_none (P := Try.prog) (w := w.alloc (.cells #[] 3)) w.heap.size 23 o.type 3 i0 1 Try.underlying23 hi _ _ _ hmade
    have h1 := hK _ _ (h (.slice (some ⟨w.heap.size, 0, none⟩) 0 0) (w.alloc (.cells #[] 3)) (ints_empty _ _ _ (by unfold maxLen; omega)) hb0)
    unfold Oper.wp
    simp [execOp, ho, resolve, invoke, builtin, hs, hx, hrun, Result.andThen]
    exact h1
  | some ad =>
    refine wp_append_own _ s x 23 ho w.heap.size 3 i0 (.int .i64 0) 1 8 Try.underlying23 hi hz0 hz1 hz2 rfl (by decide) _ _ _ hs hmade ad n cap (ls.map (Value.int .i64)) hx (by simp [hlen]) (news_of hv hb0) (ints_oneCell _ ls) (by unfold maxLen; omega) (by omega) (by simp) ?_
    intro v1 w1 hown1 hgrow _
    exact hK _ _ (h _ _ (ints_of_owned (B := w.heap.size) (by rw [hlen]; simpa using hown1)) (hb0.grown hgrow (by simp) (fun k hk => (hmade.lt k hk).1)))

theorem refInts_len (xs ys : List Int) (v u : Value) (w : World) (hv : Ints w v xs) (hu : Ints w u ys) (h : xs.length ≠ ys.length) :
    Calls Try.prog 8 #[v, u] w fun e w' => e = .returned (.bool false) ∧ w = w' := by
  obtain ⟨a, cap, rfl, h1, h2, -⟩ := hv
  obtain ⟨b, cap', rfl, h3, h4, -⟩ := hu
  unfold maxLen at h2 h4
  obtain ⟨n, hn1⟩ : ∃ n, n = xs.length := ⟨_, rfl⟩
  obtain ⟨m, hm1⟩ : ∃ m, m = ys.length := ⟨_, rfl⟩
  have c1 : ((n : Int) != (m : Int)) = true := by simp; omega
  rw [← hn1] at h1 ⊢
  rw [← hm1] at h3 ⊢
  clear hn1 hm1 h
  go_enter Try.func8, Try.ntmps8
  go_wp2
  go_ret
  exact ⟨rfl, rfl⟩

def SameTo (xs ys : List Int) (k : Nat) : Prop := ∀ i, i < k → xs.getD i 0 = ys.getD i 0
theorem same_of {xs ys : List Int} (h : xs.length = ys.length) (hs : SameTo xs ys xs.length) : xs = ys := by
  apply List.ext_getElem h
  intro i h1 h2
  have := hs i h1
  simpa [List.getD, h1, h2] using this

set_option maxHeartbeats 400000 in
theorem refInts_any (xs ys : List Int) (v u : Value) (w : World) (hv : Ints w v xs) (hu : Ints w u ys) :
    Calls Try.prog 8 #[v, u] w fun e w' => e = .returned (.bool (decide (xs = ys))) ∧ Below w.heap.size w w' := by
  by_cases hl : xs.length = ys.length
  · obtain ⟨a, cap, rfl, hc1, hc2, hcell⟩ := hv
    obtain ⟨a', cap', rfl, hd1, hd2, hdell⟩ := hu
    unfold maxLen at hc2 hd2
    obtain ⟨n, hn⟩ : ∃ n, n = xs.length := ⟨_, rfl⟩
    rw [← hl, ← hn]
    rw [← hl, ← hn] at hd1
    have HN := Lib.hid hn
    have HL := Lib.hid hl
    have HC := Lib.hid hcell
    have HD := Lib.hid hdell
    have hn2 : n ≤ cap := by omega
    clear hcell hdell hn hc1 hl
    go_enter Try.func8, Try.ntmps8
    go_wp2
    go_loopw [5] (fun i wr => ∃ (k d : Nat), k ≤ n ∧ i = .int .i64 k ∧ SameTo xs ys k ∧ wr = w.drewN d) (fun i _ => n - (intOf i).toNat)
    case atStart => exact ⟨0, 0, Nat.zero_le _, rfl, fun i hi => by omega, by simp [World.drewN_zero]⟩
    case round =>
      obtain ⟨k, d, hk, rfl, hs, rfl⟩ := hrel
      have HS := Lib.hid hs
      clear hs
      by_cases h1 : k < n
      · have h1' := h1
        rw [HN.out] at h1'
        have h1'' := h1'
        rw [HL.out] at h1''
        obtain ⟨b, off, rfl, hbs, hcs⟩ := HC.out (by omega)
        obtain ⟨b', off', rfl, hbs', hcs'⟩ := HD.out (by omega)
        have hc := hcs k h1'
        have hd := hcs' k h1''
        have hki : (k : Int) < (n : Int) := by omega
        obtain ⟨x, hx⟩ : ∃ x, x = xs.getD k 0 := ⟨_, rfl⟩
        obtain ⟨y, hy⟩ : ∃ y, y = ys.getD k 0 := ⟨_, rfl⟩
        rw [← hx] at hc
        rw [← hy] at hd
        have HX := Lib.hid hx
        have HY := Lib.hid hy
        clear hcs hcs' h1' h1'' hx hy
        by_cases hxy : x = y
        · subst hxy
          go_wp2
          go_quiet (fail)
          go_wp2
          refine ⟨⟨k + 1, d + nq, by omega, by go_num, fun i hi => ?_, rfl⟩, by simp [intOf]; omega⟩
          by_cases e : i = k
          · rw [e]; exact HX.out.symm.trans HY.out
          · exact HS.out i (by omega)
        · have hxy' : (x != y) = true := by simpa using hxy
          have hne : xs ≠ ys := fun e => hxy (by rw [HX.out, HY.out, e])
          have HE := Lib.hid (show decide (xs = ys) = false by simpa using hne)
          clear hne hxy
          go_wp2
          go_quiet (fail)
          go_wp2
          go_ret
          refine ⟨retB HE.out.symm, ?_⟩
          exact below_drewN (below_drewN (Below.refl _ _) _) _
      · have HE := Lib.hid (show decide (xs = ys) = true by
          have := same_of HL.out (fun i hi => HS.out i (by rw [← HN.out] at hi; omega))
          simpa using this)
        have hf : decide ((k : Int) < (n : Int)) = false := by simp; omega
        go_wp2
        go_ret
        exact ⟨retB HE.out.symm, below_drewN (Below.refl _ _) _⟩
  · have e : decide (xs = ys) = false := by simp; intro h; exact hl (by rw [h])
    rw [e]
    exact (refInts_len xs ys v u w hv hu hl).mono fun _ _ ⟨h1, h2⟩ => ⟨h1, h2 ▸ Below.refl _ _⟩
theorem refInts_same {xs ys : List Int} {v u : Value} {w : World} (h : xs = ys) (hv : Ints w v xs) (hu : Ints w u ys) :
    Calls Try.prog 8 #[v, u] w fun e w' => e = .returned (.bool true) ∧ Below w.heap.size w w' := by
  have := refInts_any xs ys v u w hv hu
  rw [show decide (xs = ys) = true by simpa using h] at this
  exact this
end Go.Proofs.Ytoacedadfjoneaa.ints
