/- The walks of tri's Text, Read and what they call. -/
import Derived.Test.YtmbmpghfidcnhaaDoorTv
import Derived.Test.YtmbmpghfidcnhaaDoorIb
import Derived.Test.YtmbmpghfidcnhaaDoorFnX
import Derived.Lib.LaidTab
import Derived.Lib.AppendIntMem
import Derived.Lib.UnsafeStr
import Derived.Laws.IdiomStrings
import Derived.Laws.Concat
namespace Go.Proofs.YtmbmpghfidcnhaaDoor.tri
open Go.RowKit Go.PlainAid
open Go.Proofs.YtmbmpghfidcnhaaDoor.fns Go.Proofs.YtmbmpghfidcnhaaDoor.ints

/-- the signs stand -/
def Sgn (w : World) : Prop := Lib.TabIs Tryd.prog w "latchet/tri.signs" .u8 [48, 49, 120]
theorem Sgn.on {w w' : World} (h : Sgn w) (hb : Below w.heap.size w w') : Sgn w' := Lib.tabBelow_of_tabIs h w' hb
theorem gSig : Tryd.prog.globalNamed "latchet/tri.signs" = some 0 := by kernel_rfl
theorem Sgn.cells {w : World} (h : Sgn w) : w.cell? ⟨0, 0, none⟩ = some (.int .u8 48) ∧ w.cell? ⟨0, 1, none⟩ = some (.int .u8 49) ∧ w.cell? ⟨0, 2, none⟩ = some (.int .u8 120) :=
  ⟨h.cell gSig 0 (by decide), h.cell gSig 1 (by decide), h.cell gSig 2 (by decide)⟩

/-- an array by value, indexed -/
theorem wpList_idx {P : Program} {w : World} {ops : Array Oper} {rest : List Oper} {o : Oper} {a : Act} {Q : Exit → Act → World → Prop} (hgd : o.guard = none) (t : TypeId) (x i : Operand) (v : Value)
    (ho : o.op = .index t x i) (h : (Instr.index t (a.eval x) (a.eval i)).run P w = .ok v w) (hrest : wpList P ops Q rest (a.put o.dst v) w) : wpList P ops Q (o :: rest) a w := by
  refine wpList_plain hgd fun K hK => ?_
  unfold Oper.wp
  simp [execOp, ho, h, Oper.upon]
  exact hK _ _ hrest
/-- none of the first k signs is b -/
def NoSign (b : Int) (k : Nat) : Prop := (0 < k → b ≠ 48) ∧ (1 < k → b ≠ 49) ∧ (2 < k → b ≠ 120)
theorem valueOf_any (b : Int) (w : World) (hT : Sgn w) (c : Bool) (v : Int) (h : (sv b = v ∧ 0 ≤ v ∧ c = true) ∨ (sv b = -1 ∧ v = 0 ∧ c = false)) :
    Calls Tryd.prog 13 #[.int .u8 b] w fun e w' => e = .returned (.tuple #[.int .i64 v, .bool c]) ∧ w = w' := by
  obtain ⟨x0, x1, x2⟩ := hT.cells
  have H := Lib.hid h
  clear h hT
  go_enter Tryd.func13, Tryd.ntmps13
  go_wp2
  go_loop [7] (fun i => ∃ k : Nat, k ≤ 3 ∧ i = .int .i64 k ∧ Hid (NoSign b k)) (fun i => 3 - (intOf i).toNat)
  case atStart => exact ⟨0, by omega, rfl, Lib.hid ⟨fun h => by omega, fun h => by omega, fun h => by omega⟩⟩
  case round =>
    obtain ⟨k, hk, rfl, HN⟩ := hrel
    have hk4 : k = 0 ∨ k = 1 ∨ k = 2 ∨ k = 3 := by omega
    rcases hk4 with rfl | rfl | rfl | rfl
    · by_cases e : b = 48
      · have c1 : ((48 : Int) == b) = true := by simp [e]
        have HE := Lib.hid e
        clear e
        go_wp2_with (refine wpList_idx rfl 38 (.tmp 6) (.tmp 7) (.int .u8 48) rfl rfl ?_)
        go_ret2
        refine ⟨?_, rfl⟩
        rcases H.out with ⟨h1, h2, rfl⟩ | ⟨h1, -, -⟩
        · rw [HE.out] at h1; rw [← h1]; rfl
        · rw [HE.out] at h1; exact absurd h1 (by decide)
      · have c1 : ((48 : Int) == b) = false := by simp; omega
        have HE := Lib.hid e
        clear e
        go_wp2_with (refine wpList_idx rfl 38 (.tmp 6) (.tmp 7) (.int .u8 48) rfl rfl ?_)
        go_round
        case rel => exact ⟨1, by omega, rfl, Lib.hid ⟨fun _ => HE.out, fun h => by omega, fun h => by omega⟩⟩
        case measure => simp [intOf]
    · by_cases e : b = 49
      · have c1 : ((49 : Int) == b) = true := by simp [e]
        have HE := Lib.hid e
        clear e
        go_wp2_with (refine wpList_idx rfl 38 (.tmp 6) (.tmp 7) (.int .u8 49) rfl rfl ?_)
        go_ret2
        refine ⟨?_, rfl⟩
        rcases H.out with ⟨h1, h2, rfl⟩ | ⟨h1, -, -⟩
        · rw [HE.out] at h1; rw [← h1]; rfl
        · rw [HE.out] at h1; exact absurd h1 (by decide)
      · have c1 : ((49 : Int) == b) = false := by simp; omega
        have HE := Lib.hid e
        clear e
        go_wp2_with (refine wpList_idx rfl 38 (.tmp 6) (.tmp 7) (.int .u8 49) rfl rfl ?_)
        go_round
        case rel => exact ⟨2, by omega, rfl, Lib.hid ⟨fun _ => HN.out.1 (by omega), fun _ => HE.out, fun h => by omega⟩⟩
        case measure => simp [intOf]
    · by_cases e : b = 120
      · have c1 : ((120 : Int) == b) = true := by simp [e]
        have HE := Lib.hid e
        clear e
        go_wp2_with (refine wpList_idx rfl 38 (.tmp 6) (.tmp 7) (.int .u8 120) rfl rfl ?_)
        go_ret2
        refine ⟨?_, rfl⟩
        rcases H.out with ⟨h1, h2, rfl⟩ | ⟨h1, -, -⟩
        · rw [HE.out] at h1; rw [← h1]; rfl
        · rw [HE.out] at h1; exact absurd h1 (by decide)
      · have c1 : ((120 : Int) == b) = false := by simp; omega
        have HE := Lib.hid e
        clear e
        go_wp2_with (refine wpList_idx rfl 38 (.tmp 6) (.tmp 7) (.int .u8 120) rfl rfl ?_)
        go_round
        case rel => exact ⟨3, by omega, rfl, Lib.hid ⟨fun _ => HN.out.1 (by omega), fun _ => HN.out.2.1 (by omega), fun _ => HE.out⟩⟩
        case measure => simp [intOf]
    · go_wp2
      go_ret2
      refine ⟨?_, rfl⟩
      have hb := sv_bad (HN.out.1 (by omega)) (HN.out.2.1 (by omega)) (HN.out.2.2 (by omega))
      rcases H.out with ⟨h1, h2, -⟩ | ⟨-, rfl, rfl⟩
      · omega
      · rfl
theorem valueOf_yes {b : Int} (h : 0 ≤ sv b) (w : World) (hT : Sgn w) :
    Calls Tryd.prog 13 #[.int .u8 b] w fun e w' => e = .returned (.tuple #[.int .i64 (sv b), .bool true]) ∧ w = w' := valueOf_any b w hT true (sv b) (.inl ⟨rfl, h, rfl⟩)
theorem valueOf_no {b : Int} (h : sv b = -1) (w : World) (hT : Sgn w) :
    Calls Tryd.prog 13 #[.int .u8 b] w fun e w' => e = .returned (.tuple #[.int .i64 0, .bool false]) ∧ w = w' := valueOf_any b w hT false 0 (.inr ⟨h, rfl, rfl⟩)
end Go.Proofs.YtmbmpghfidcnhaaDoor.tri
