/- The walk of heap's List, of three things. -/
import Derived.Test.YtpcpjpcejcgodaaK9
import Derived.Laws.EntriesVeiled
import Derived.Deep.Onto
namespace Go.Proofs.Ytpcpjpcejcgodaa.heap
open Go.Shelf Go.RowKit
open Go.Proofs.Ytpcpjpcejcgodaa.fns Go.Proofs.Ytpcpjpcejcgodaa.hpf Go.Proofs.Ytpcpjpcejcgodaa.ints

def Ahead (A B g s p n : Nat) (tv : Value) (S P T : List Nat) (w : World) (v : Value) (wx : World) : Prop :=
  ∃ d c, v = .pointer (some ⟨d, 0, none⟩) ∧ Hp A B wx g s p tv n S P T ∧ One wx d (.func (.func 30) #[] #[.pointer (some ⟨c, 0, none⟩)]) ∧ One wx c (.slice (some ⟨s, 0, none⟩) n n) ∧ Below w.heap.size w wx
def Listed (L : List Value) (w : World) (e : Ending) (w' : World) : Prop :=
  ∃ l c, e = .returned (.slice (some ⟨l, 0, none⟩) 3 c) ∧ w'.ownsRow w.heap.size 3 1 (.slice (some ⟨l, 0, none⟩) 3 c) 3 L ∧ Below w.heap.size w w'
theorem List3_any (A B g s p t m c : Nat) (S P T : List Nat) (D : Array (Fin 3)) (w : World) (h : Hp A B w g s p (.slice (some ⟨t, 0, none⟩) m c) 3 S P T) (hS : AllW S) (hD : D.size = 3) (hT : D.toList.map enc3 = ncells T) (hm : m = 3) :
    Calls Try.prog 15 #[.pointer (some ⟨g, 0, none⟩)] w (Listed ((Sort.insertionSort (ltOf (cmp3 S)) D 0 3).toList.map enc3) w) := by
  have HH := Lib.hid h
  have HS := Lib.hid hS
  have HT := Lib.hid hT
  have HD := Lib.hid hD
  have HM := Lib.hid hm
  have hmf : ∀ (fn : Fn) (first cap : Array Value) (w : World), (Instr.makeFunc fn first cap).run Try.prog w = .ok (.func fn first cap) w := fun _ _ _ _ => rfl
  obtain ⟨R, hR⟩ : ∃ R, R = Sort.insertionSort (ltOf (cmp3 S)) D 0 3 := ⟨_, rfl⟩
  rw [← hR]
  have HR := Lib.hid hR
  have hgl : g < w.heap.size := by have := h.lay; omega
  clear h hS hT hD hm hR
  go_enter Try.func15, Try.ntmps15
  go_upto_region 3 with fail
  go_cut [3] (fun s3 wx => Hid (Ahead A B g s p 3 (.slice (some ⟨t, 0, none⟩) m c) S P T w s3 wx))
  case first =>
    go_wp2_with fail
    go_at_call 25; refine (order_any A B g s p 3 _ S P T _ HH.out).mono ?_; rintro e w1 ⟨rfl, ho, hb⟩
    have HX : Hid (Ahead A B g s p 3 (.slice (some ⟨t, 0, none⟩) m c) S P T w (.pointer (some ⟨w1.heap.size, 0, none⟩)) (w1.alloc (.cells #[.func (.func 30) #[] #[.pointer (some ⟨w.heap.size, 0, none⟩)]] 51))) := Lib.hid
      ⟨_, _, rfl, (HH.out.on hb).on ((Below.refl _ _).alloc (Nat.le_refl _) _), one_new _ _ _, ho.on ((Below.refl w1.heap.size w1).alloc (Nat.le_refl _) _) ho.lt, hb.alloc hb.size _⟩
    clear ho hb
    go_wp2_with fail
    go_meet
    exact HX
  case rest =>
    obtain ⟨d, c1, rfl, hp, hd, hc, hb⟩ := hcut.out
    obtain ⟨W, rfl⟩ : ∃ W : World, W = wc := ⟨_, rfl⟩
    obtain ⟨-, -, c2, -⟩ := hp.cG
    have HP := Lib.hid hp
    have HDD := Lib.hid hd
    have HC := Lib.hid hc
    have HB := Lib.hid hb
    clear hcut hp hd hc hb
    go_wp2_with fail
    go_at_call 26; refine (clone_any A B g s p t m c 3 S P T _ HP.out (by rw [HM.out]; omega) (by rw [HM.out]; omega)).mono ?_; rintro e w2 ⟨l, c2', rfl, hrow, hb2⟩
    have hl3 : T.length = 3 := by rw [HP.out.len.1]; exact HM.out
    rw [hl3, ← HT.out] at hrow
    rw [hl3]
    have HROW := Lib.hid hrow
    have HB2 := Lib.hid hb2
    have HL : Hid (W.heap.size ≤ l) := Lib.hid (hrow.lt l rfl).1
    clear hrow hb2 hl3
    go_wp2_with fail
    go_at_call 27; refine (sort3 A B g s p c1 d W.heap.size l c2' _ S P T W w2 D HP.out HS.out HC.out HDD.out HB2.out HL.out HD.out HROW.out).mono ?_; rintro e w3 ⟨rfl, hr, hb3⟩
    rw [← HR.out] at hr
    have HE : Hid (Listed (R.toList.map enc3) w (.returned (.slice (some ⟨l, 0, none⟩) 3 c2')) w3) := Lib.hid ⟨l, c2', rfl, World.ownsRow.mono hr HB.out.size, HB.out.trans (hb3.mono HB.out.size)⟩
    clear hr hb3
    go_wp2_with fail
    go_ret
    exact HE.out
end Go.Proofs.Ytpcpjpcejcgodaa.heap
