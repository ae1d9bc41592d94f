/- The walks of the writers of a number by digits of seven bits. -/
import Derived.Test.YtfjllaemmmhjnaaDoorProg
import Derived.Test.YtfjllaemmmhjnaaDoorFnN
import Derived.WalkKit
import Derived.Handy
import Derived.Outline
import Derived.OwnWalk
import Derived.Lib.UnsafeStr
import Derived.Laws.IdiomStrings
namespace Go.Proofs.YtfjllaemmmhjnaaDoor.oct
open Go.RowKit Go.PlainAid
open Go.Proofs.YtfjllaemmmhjnaaDoor.fns

theorem infoByte : (Tryd.prog.info? 5).map (fun i => (i.zero, i.size, i.bytes)) = some (some (.int .u8 0), 1, 1) := by kernel_rfl

set_option maxRecDepth 100000 in
theorem num_any (n : Nat) (w : World) (hn : n < 4294967296) :
    Calls Tryd.prog 7 #[.int .u32 n] w fun e w' => e = .returned (.string (numS n)) ∧ Below w.heap.size w w' := by
  obtain ⟨i0, hi, hz0, hz1, hz2⟩ := info_parts infoByte
  have HN := Lib.hid hn
  clear hn
  go_enter Tryd.func7, Tryd.ntmps7
  go_wp2
  go_loopw [0, 3] (fun v d wr => ∃ (m f : Nat) (l : List UInt8), v = .int .u32 m ∧ (m : Int) ≤ 4294967295 ∧ m < 128 ^ (f + 1) ∧ l.length + f = 4 ∧ l ++ numL f m = numL 4 n ∧ wr.ownsRow w.heap.size 5 1 d l.length (Lib.byteCells l) ∧ Below w.heap.size w wr) (fun v _ _ => (intOf v).toNat)
  case atStart => exact ⟨n, 4, [], rfl, by have := HN.out; omega, by have := HN.out; omega, rfl, rfl, World.ownsRow_nil _ _ _ _, Below.refl _ _⟩
  case round =>
    obtain ⟨m, f, l, rfl, hm', hm, hlf, hl, hown, hbel⟩ := hrel
    have HL := Lib.hid hl
    have HF := Lib.hid hlf
    have hl5 : l.length ≤ 4 := by omega
    clear hl hlf
    have HM := Lib.hid hm
    clear hm
    by_cases h1 : 128 ≤ m
    · go_wp2_with (at_builtin; refine wpList_append_own _ rfl (.tmp 6) (.tmp 11) 52 rfl w.heap.size 5 i0 (.int .u8 0) 1 1 Tryd.underlying52 hi hz0 hz1 hz2 rfl (by decide) _ _ _ rfl (hown.alloc _) ⟨wr.heap.size, 0, none⟩ 1 1 [.int .u8 ((m : Int) % 128 + 128)] rfl rfl (by intro j u hj; match j, hj with | 0, hj => simp at hj; subst hj; simp [Addr.add]) (by intro u hu; simp at hu; subst hu; rfl) (by unfold maxLen; omega) (by omega) (by have := hbel.size; simp; omega) ?_)
      intro v' w1 hown' hgrow _
      have hbel' : Below w.heap.size w w1 := (hbel.alloc hbel.size _).grown hgrow (by have := hbel.size; simp; omega) (fun k hk => (hown.lt k hk).1)
      rw [cells_snoc l (k := m % 128 + 128) (by omega) (by omega)] at hown'
      clear hgrow hown
      go_wp2
      go_roundw
      case rel =>
        have hm2 := HM.out
        have hf := HF.out
        obtain ⟨f', rfl⟩ : ∃ f', f = f' + 1 := ⟨f - 1, by cases f with | zero => simp at hm2; omega | succ f => omega⟩
        exact ⟨m / 128, f', l ++ [UInt8.ofNat (m % 128 + 128)], by congr 1, by omega, by rw [Nat.pow_succ] at hm2; omega, by simp; omega, by rw [List.append_assoc, List.singleton_append, ← numL_great h1]; exact HL.out, by simpa using hown', hbel'⟩
      case measure => simp [intOf]; omega
    · have h2 : m < 128 := by omega
      go_wp2_with (at_builtin; refine wpList_append_own _ rfl (.tmp 15) (.tmp 18) 52 rfl w.heap.size 5 i0 (.int .u8 0) 1 1 Tryd.underlying52 hi hz0 hz1 hz2 rfl (by decide) _ _ _ rfl (hown.alloc _) ⟨wr.heap.size, 0, none⟩ 1 1 [.int .u8 (m : Int)] rfl rfl (by intro j u hj; match j, hj with | 0, hj => simp at hj; subst hj; simp [Addr.add]) (by intro u hu; simp at hu; subst hu; rfl) (by unfold maxLen; omega) (by omega) (by have := hbel.size; simp; omega) ?_)
      intro v' w1 hown' hgrow _
      have hbel' : Below w.heap.size w w1 := (hbel.alloc hbel.size _).grown hgrow (by have := hbel.size; simp; omega) (fun k hk => (hown.lt k hk).1)
      rw [cells_snoc l (k := m) (by omega) rfl] at hown'
      clear hgrow hown
      have he : l ++ [UInt8.ofNat m] = numL 4 n := by rw [← HL.out, numL_small h2]
      have hlen : l.length + 1 = (numL 4 n).length := by rw [← he]; simp
      rw [he, hlen] at hown'
      clear he
      have hpos : 0 < (numL 4 n).length := by omega
      clear hlen
      rcases hown'.2 with ⟨-, h0⟩ | ⟨g, cap, cur, rfl, -, -, -, -, -, -⟩
      · omega
      · have hcv := run_convert_bytes_back (P := Tryd.prog) w1 52 9 5 ⟨g, 0, none⟩ cap (numL 4 n) Tryd.underlying52 Tryd.underlying5 Tryd.underlying9 (fun j hj => hown'.cells (g := g) rfl j _ (by simp [Lib.byteCells, hj]))
        go_wp2
        go_ret
        exact ⟨rfl, hbel'⟩
end Go.Proofs.YtfjllaemmmhjnaaDoor.oct
