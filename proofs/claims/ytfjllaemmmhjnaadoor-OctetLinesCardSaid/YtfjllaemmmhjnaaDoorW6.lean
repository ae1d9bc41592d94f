/- The walk of the document's writer of a number by digits of seven bits. -/
import Derived.Test.YtfjllaemmmhjnaaDoorW5
import Derived.Laws.Concat
namespace Go.Proofs.YtfjllaemmmhjnaaDoor.oct
open Go.RowKit Go.PlainAid
open Go.Proofs.YtfjllaemmmhjnaaDoor.fns

/-- a new row of one byte, read as a text -/
theorem one_text (wr : World) (k : Nat) (z : Int) (hk : k < 256) (hz : z = k) :
    (convert 52 9 (.slice (some ⟨wr.heap.size, 0, none⟩) 1 1)).run Tryd.prog (wr.alloc (.cells #[.int .u8 z] 5)) = .ok (.string ⟨#[UInt8.ofNat k]⟩) (wr.alloc (.cells #[.int .u8 z] 5)) :=
  run_convert_bytes_back (P := Tryd.prog) (wr.alloc (.cells #[.int .u8 z] 5)) 52 9 5 ⟨wr.heap.size, 0, none⟩ 1 [UInt8.ofNat k] Tryd.underlying52 Tryd.underlying5 Tryd.underlying9 (fun j hj => by
    simp at hj; subst hj
    simp only [Addr.add, List.getElem_cons_zero]
    rw [u8_nat hk, ← hz]
    simp)
theorem str_snoc (l : List UInt8) (b : UInt8) : ByteArray.mk l.toArray ++ ⟨#[b]⟩ = ⟨(l ++ [b]).toArray⟩ := by
  rw [ByteArray.mk_append_mk]

set_option maxRecDepth 100000 in
theorem refNum_any (n : Nat) (w : World) (hn : n < 4294967296) :
    Calls Tryd.prog 9 #[.int .u32 n] w fun e w' => e = .returned (.string (numS n)) ∧ Below w.heap.size w w' := by
  have HN := Lib.hid hn
  clear hn
  go_enter Tryd.func9, Tryd.ntmps9
  go_wp2
  go_loopw [0, 3] (fun v d wr => ∃ (m f : Nat) (l : List UInt8), v = .int .u32 m ∧ (m : Int) ≤ 4294967295 ∧ m < 128 ^ (f + 1) ∧ l.length + f = 4 ∧ l ++ numL f m = numL 4 n ∧ d = .string ⟨l.toArray⟩ ∧ Below w.heap.size w wr) (fun v _ _ => (intOf v).toNat)
  case atStart => exact ⟨n, 4, [], rfl, by have := HN.out; omega, by have := HN.out; omega, rfl, rfl, rfl, Below.refl _ _⟩
  case round =>
    obtain ⟨m, f, l, rfl, hm', hm, hlf, hl, rfl, hbel⟩ := hrel
    have HL := Lib.hid hl
    have HF := Lib.hid hlf
    have hl5 : l.length ≤ 4 := by omega
    clear hl hlf
    have HM := Lib.hid hm
    clear hm
    by_cases h1 : 128 ≤ m
    · have hcv := one_text wr (m % 128 + 128) ((m : Int) % 128 + 128) (by omega) (by omega)
      go_wp2
      go_roundw
      case rel =>
        have hm2 := HM.out
        have hf := HF.out
        obtain ⟨f', rfl⟩ : ∃ f', f = f' + 1 := ⟨f - 1, by cases f with | zero => simp at hm2; omega | succ f => omega⟩
        exact ⟨m / 128, f', l ++ [UInt8.ofNat (m % 128 + 128)], by congr 1, by omega, by rw [Nat.pow_succ] at hm2; omega, by simp; omega, by rw [List.append_assoc, List.singleton_append, ← numL_great h1]; exact HL.out, by rw [← str_snoc, UInt8.ofNat_add]; rfl, hbel.alloc hbel.size _⟩
      case measure => simp [intOf]; omega
    · have h2 : m < 128 := by omega
      have hcv := one_text wr m (m : Int) (by omega) rfl
      go_wp2
      go_ret
      have he : l ++ [UInt8.ofNat m] = numL 4 n := by rw [← HL.out, numL_small h2]
      exact ⟨by rw [str_snoc, he]; rfl, hbel.alloc hbel.size _⟩
end Go.Proofs.YtfjllaemmmhjnaaDoor.oct
