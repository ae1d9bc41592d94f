/- The walks of the project's New, Len, Net, Clone. -/
import Derived.Test.YtfdihlicmmcjjaaY6
import Derived.Test.YtfdihlicmmcjjaaAt
import Derived.Deep.RegionHeld3
import Derived.Lib.SliceRun
namespace Go.Proofs.Ytfdihlicmmcjjaa.aig
open Go.RowKit Go.Maps Go.WideMaps
open Go.Proofs.Ytfdihlicmmcjjaa.mem Go.Proofs.Ytfdihlicmmcjjaa.agf Go.Proofs.Ytfdihlicmmcjjaa.fns

theorem row_low {A B : Nat} {w : World} {v : Value} {n size : Nat} {e : TypeId} {xs : List Value} (h : w.ownsRow B e size v n xs) (hA : A ≤ B) : w.ownsRow A e size v n xs :=
  ⟨h.1, h.2.imp id fun ⟨g, cap, cur, e, hb, r⟩ => ⟨g, cap, cur, e, Nat.le_trans hA hb, r⟩⟩
theorem row_form {A n size : Nat} {w : World} {v : Value} {e : TypeId} {xs : List Value} (h : w.ownsRow A e size v n xs) : ∃ a c, v = .slice a n c := by
  rcases h.2 with ⟨e, e2⟩ | ⟨t, c, cur, e, -⟩
  · exact ⟨none, 0, by rw [e, e2]⟩
  · exact ⟨_, _, e⟩
theorem blk_new (w : World) (cs : Array Value) (t : TypeId) : ∃ t', (w.alloc (.cells cs t)).heap[w.heap.size]? = some (.cells cs t' (0, 0)) :=
  ⟨t, by show (w.heap.push _)[w.heap.size]? = _; rw [Array.getElem?_push, if_pos rfl]⟩
theorem new_any (A : Nat) (w : World) (hA : A ≤ w.heap.size) :
    Calls Try.prog 17 #[] w fun e w' => ∃ g mb v, e = .returned (.pointer (some ⟨g, 0, none⟩)) ∧ GRep A w' g mb v [] ∧ (∀ k, GOwn g mb v k → w.heap.size ≤ k) ∧ Below w.heap.size w w' := by
  obtain ⟨w1, hw1⟩ : ∃ w1, w1 = w.alloc (.map #[] 0) := ⟨_, rfl⟩
  have hb1 : Below w.heap.size w w1 := by rw [hw1]; exact (Below.refl _ _).alloc (Nat.le_refl _) _
  have hz1 : w1.heap.size = w.heap.size + 1 := by rw [hw1]; simp
  have HM : Hid (w1.ownsMap Try.prog 54 (plainElem Try.prog 3 (H := Unit)) w.heap.size 0 (.map [])) := Lib.hid (by rw [hw1]; exact World.ownsMap_made w _ _ _)
  have HE : Hid (∀ t, (fun e w' => ∃ g mb v, e = Ending.returned (.pointer (some ⟨g, 0, none⟩)) ∧ GRep A w' g mb v [] ∧ (∀ k, GOwn g mb v k → w.heap.size ≤ k) ∧ Below w.heap.size w w') (.returned (.pointer (some ⟨w1.heap.size, 0, none⟩))) (w1.alloc (.cells #[.slice none 0 0, .map (some w.heap.size)] t))) := Lib.hid (fun t => by
    refine ⟨w1.heap.size, w.heap.size, .slice none 0 0, rfl, ⟨.map [], 0, ⟨blk_new _ _ _, World.ownsRow_nil _ _ _ _, HM.out.alloc _, ⟨by simp [Value.ownBlock], by simp [Value.ownBlock]⟩, by omega, hA, by omega⟩, Nat.le_refl _, gok_nil⟩, fun k hk => ?_, hb1.trans (((Below.refl _ w1).alloc (Nat.le_refl _) _).mono (by omega))⟩
    rcases hk with rfl | rfl | e
    · omega
    · omega
    · simp [Value.ownBlock] at e)
  have HW := Lib.hid hw1
  clear hb1 hz1 hw1
  go_enter Try.func17, Try.ntmps17
  go_wp2
  rw [show (Instr.makeMap 60 none).run Try.prog w = .ok (.map (some w.heap.size)) (w.alloc (.map #[] 0)) from rfl]
  simp only [Result.andThen]
  rw [Oper.upon_value, ← HW.out]
  go_wp2
  go_ret
  exact HE.out _
theorem len_any (A g mb : Nat) (v : Value) (N : Net) (w : World) (r : GRep A w g mb v N) :
    Calls Try.prog 22 #[.pointer (some ⟨g, 0, none⟩)] w fun e w' => e = .returned (.int .i64 N.length) ∧ w = w' := by
  obtain ⟨D, q0, s, -, -⟩ := r
  obtain ⟨⟨c0, -⟩, -⟩ := s.cells
  obtain ⟨a, c, rfl⟩ := s.form
  obtain ⟨m, hm⟩ : ∃ m, m = N.length := ⟨_, rfl⟩
  rw [← hm] at c0 ⊢
  clear s hm
  go_enter Try.func22, Try.ntmps22
  go_wp2_with fail
  go_ret
  exact ⟨rfl, rfl⟩
/-- how a list of nodes is cloned -/
def NCloned (N : Net) (w : World) (e : Ending) (w' : World) : Prop :=
  ∃ u, e = .returned u ∧ w'.ownsRow w.heap.size 54 2 u N.length (nodeCells (N.map conc)) ∧ Below w.heap.size w w'
theorem sclone_any (A : Nat) (v : Value) (N : Net) (w : World) (h : w.ownsRow A 54 2 v N.length (nodeCells (N.map conc))) (hN : N.length ≤ 1000000) :
    Calls Try.prog 35 #[v] w (NCloned N w) := by
  obtain ⟨i0, hi, hz0, hz1, hz2⟩ := info_parts infoN
  have hkn := knds_row (P := fun _ => False) (ns := N.map conc) (by rw [List.length_map]; exact h) (fun _ e => e.elim)
  have hk : ∀ W : World, ∀ a n c, (binOp .eql 22 (.slice a n c) (.slice none 0 0)).run Try.prog W = .ok (.bool a.isNone) W := fun W a n c => Lib.run_eql_slice_nil W 22 54 a n c 0 0 Try.underlying22
  rcases h.2 with ⟨rfl, h0⟩ | ⟨t, cap, cur, rfl, hb, hg, hn, hm, hs, ht⟩
  · obtain rfl : N = [] := List.eq_nil_of_length_eq_zero h0
    have hk2 := fun W => hk W none 0 0
    clear h hkn hk h0
    go_enter Try.func35, Try.ntmps35
    go_wp2_with fail
    go_ret
    exact ⟨_, rfl, World.ownsRow_nil _ _ _ _, Below.refl _ _⟩
  · have hk2 := fun W => hk W (some ⟨t, 0, none⟩) N.length cap
    simp only [Option.isNone] at hk2
    have hmade : (w.alloc (.cells #[] 54)).ownsRow w.heap.size 54 2 (.slice (some ⟨w.heap.size, 0, none⟩) 0 0) 0 [] := World.ownsRow_made _ #[] 0 (Nat.le_refl _) (by unfold maxLen; omega) rfl
    have hb0 : Below w.heap.size w (w.alloc (.cells #[] 54)) := (Below.refl _ w).alloc (Nat.le_refl _) _
    have HN := Lib.hid (knds_news (hkn.move (moved_of_below hb0)))
    have HM := Lib.hid hmade
    have HB := Lib.hid hb0
    have HO := Lib.hid (nodes_oneCell (N.map conc))
    obtain ⟨n, hnn⟩ : ∃ n, n = N.length := ⟨_, rfl⟩
    rw [← hnn] at hN HN hk2
    have HNN := Lib.hid hnn
    have HLL : Hid ((nodeCells (N.map conc)).length = n * 2) := Lib.hid (by rw [nodeCells_len, List.length_map, hnn])
    rw [← hnn]
    clear h hkn hk hb hg hn hm hs ht hmade hb0 hnn
    go_enter Try.func35, Try.ntmps35
    go_wp2_with (at_builtin; refine wpList_append_own _ rfl _ _ 22 rfl w.heap.size 54 i0 _ 2 16 Try.underlying22 hi hz0 hz1 hz2 rfl (by decide) (.slice (some ⟨w.heap.size, 0, none⟩) 0 0) 0 [] rfl HM.out ⟨t, 0, none⟩ n cap (nodeCells (N.map conc)) rfl HLL.out HN.out.2 HO.out (by unfold maxLen; omega) (by omega) (by simp) ?_)
    intro u w1 hown hgrow _
    have HE : Hid (NCloned N w (.returned u) w1) := Lib.hid ⟨u, rfl, by rw [← HNN.out]; simpa using hown, HB.out.grown hgrow (by simp) (fun k hk => (HM.out.lt k hk).1)⟩
    clear hown hgrow
    go_wp2_with fail
    go_ret
    exact HE.out
theorem mclone_any (mb q0 : Nat) (D : DataW Unit) (w : World) (h : w.ownsMap Try.prog 54 (plainElem Try.prog 3) mb q0 D) :
    Calls Try.prog 36 #[.map (some mb)] w fun e w' => e = .returned (.map (some w.heap.size)) ∧ w'.ownsMap Try.prog 54 (plainElem Try.prog 3) w.heap.size q0 D ∧ Below w.heap.size w w' := by
  obtain ⟨es, clock, hb, F, hs, hD⟩ := h
  have HE : Hid ((w.alloc (.map es clock)).ownsMap Try.prog 54 (plainElem Try.prog 3) w.heap.size q0 D ∧ Below w.heap.size w (w.alloc (.map es clock))) := Lib.hid ⟨⟨es, clock, (MapKept.heap_alloc w _).1, F, hs, hD⟩, (Below.refl _ w).alloc (Nat.le_refl _) _⟩
  have hq := fun w => run_eql_map_nil_sl (P := Try.prog) w 60 _ _ (some mb) Try.underlying60
  have HC := Lib.hid (run_maps_clone_sl (P := Try.prog) w 60 hb)
  clear F hs hD hb
  go_enter Try.func36, Try.ntmps36
  go_wp2
  rw [run_callFunc_extern Try.func50 (by kernel_rfl) (by kernel_rfl) (by kernel_rfl) (e := Extern.MapsClone.clone) (by kernel_rfl), HC.out]
  simp only [Result.andThen]
  rw [Oper.upon_value]
  go_wp2
  rw [run_typeAssert_map_sl _ 60 20 _ _ _ Try.underlying60]
  simp only [Result.andThen]
  rw [Oper.upon_value]
  go_wp2
  go_ret
  exact ⟨rfl, HE.out⟩
theorem net_any (A g mb : Nat) (v : Value) (N : Net) (w : World) (r : GRep A w g mb v N) (hN : N.length ≤ 1000000) :
    Calls Try.prog 23 #[.pointer (some ⟨g, 0, none⟩)] w (NCloned N w) := by
  obtain ⟨D, q0, s, -, -⟩ := r
  obtain ⟨⟨c0, -⟩, -⟩ := s.cells
  have HC := Lib.hid (sclone_any A v N w s.row hN)
  clear s
  go_enter Try.func23, Try.ntmps23
  go_wp2_with fail
  go_at_call 35; refine HC.out.mono ?_; rintro e w1 h1
  have HE := Lib.hid h1
  obtain ⟨u, rfl, -, -⟩ := h1
  go_wp2_with fail
  go_ret
  exact HE.out
/-- how a store is cloned -/
def GCloned (A : Nat) (N : Net) (w : World) (e : Ending) (w' : World) : Prop :=
  ∃ g mb v, e = .returned (.pointer (some ⟨g, 0, none⟩)) ∧ GRep A w' g mb v N ∧ (∀ k, GOwn g mb v k → w.heap.size ≤ k) ∧ Below w.heap.size w w'
theorem gclone_end {A q0 : Nat} {u : Value} {N : Net} {D : DataW Unit} {w w1 w2 w3 : World} (t : TypeId) (hA : A ≤ w.heap.size) (h1 : Below w.heap.size w w1) (r2 : w2.ownsRow w1.heap.size 54 2 u N.length (nodeCells (N.map conc))) (b2 : Below w1.heap.size w1 w2)
    (m3 : w3.ownsMap Try.prog 54 (plainElem Try.prog 3) w2.heap.size q0 D) (b3 : Below w2.heap.size w2 w3) (hq : q0 ≤ N.length) (gk : GOk D N) :
    GCloned A N w (.returned (.pointer (some ⟨w3.heap.size, 0, none⟩))) (w3.alloc (.cells #[u, .map (some w2.heap.size)] t)) := by
  have z1 := h1.size; have z2 := b2.size; have z3 := b3.size; have z4 := m3.lt
  have hlt : ∀ k, u.ownBlock = some k → w1.heap.size ≤ k ∧ k < w2.heap.size := fun k hk => r2.lt k hk
  have ha : Below w3.heap.size w3 (w3.alloc (.cells #[u, .map (some w2.heap.size)] t)) := (Below.refl _ _).alloc (Nat.le_refl _) _
  refine ⟨w3.heap.size, w2.heap.size, u, rfl, ⟨D, q0, ⟨blk_new _ _ _, row_low (own_on (own_on r2 b3) ha) (by omega), m3.alloc _, ⟨fun e => by have := hlt _ e; omega, fun e => by have := hlt _ e; omega⟩, by omega, by omega, by omega⟩, hq, gk⟩, fun k hk => ?_, ?_⟩
  · rcases hk with rfl | rfl | e
    · omega
    · omega
    · have := hlt _ e; omega
  · exact ((h1.trans (b2.mono z1)).trans (b3.mono (by omega))).trans (ha.mono (by omega))
set_option maxHeartbeats 1600000 in
theorem clone_any (A g mb : Nat) (v : Value) (N : Net) (w : World) (r : GRep A w g mb v N) (hN : N.length ≤ 1000000) :
    Calls Try.prog 19 #[.pointer (some ⟨g, 0, none⟩)] w (GCloned A N w) := by
  obtain ⟨D, q0, s, hq, gk⟩ := r
  obtain ⟨⟨c0, -⟩, c1, -⟩ := s.cells
  have hg := s.lt.1
  have hA := s.low
  have HQ := Lib.hid hq
  have HG := Lib.hid gk
  have HR : Hid (∀ u, Below w.heap.size w u → u.ownsRow A 54 2 v N.length (nodeCells (N.map conc))) := Lib.hid (fun u hu => own_on s.row hu)
  have HM : Hid (∀ u, Below w.heap.size w u → u.ownsMap Try.prog 54 (plainElem Try.prog 3) mb q0 D) := Lib.hid (fun u hu => (s.on hu).map)
  have KC : Hid (∀ u, Below w.heap.size w u → u.cell? ⟨g, 0, none⟩ = some v ∧ u.cell? ⟨g, 1, none⟩ = some (.map (some mb))) := Lib.hid (fun u hu => ⟨(s.on hu).cells.1.1, (s.on hu).cells.2.1⟩)
  have HD : Hid (Below w.heap.size w (w.drewN 1)) := Lib.hid (below_drewN (Below.refl _ _) 1)
  clear s hq gk
  go_enter Try.func19, Try.ntmps19
  go_upto_region 3 with fail
  go_region_held3 (fun w' => w'.cell? ⟨g, 0, none⟩ = some v ∧ w'.cell? ⟨g, 1, none⟩ = some (.map (some mb)))
    (first | go_keep | (exact KC.out _ hb3) | (exact KC.out _ hb2))
    (first | (go_at_call 35; refine (sclone_any A v N _ (HR.out _ HD.out) hN).mono ?_; rintro e w2 ⟨u, rfl, r2, b2⟩; obtain ⟨ua, uc, rfl⟩ := row_form r2; have hb2 := HD.out.trans (b2.mono HD.out.size)) | (go_at_call 36; refine (mclone_any mb q0 D _ (HM.out _ hb2)).mono ?_; rintro e w3 ⟨rfl, m3, b3⟩; have hb3 := hb2.trans (b3.mono hb2.size)))
  have HE := fun t => gclone_end t hA HD.out r2 b2 m3 b3 HQ.out HG.out
  have HE' := Lib.hid HE
  clear HE r2 b2 m3 b3 hb2 hb3 c0 c1
  go_wp2_with fail
  go_ret
  exact HE'.out _
end Go.Proofs.Ytfdihlicmmcjjaa.aig
