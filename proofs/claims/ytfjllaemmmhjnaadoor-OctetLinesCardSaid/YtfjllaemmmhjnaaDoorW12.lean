/- The walks on words. -/
import Derived.Test.YtfjllaemmmhjnaaDoorW11
namespace Go.Proofs.YtfjllaemmmhjnaaDoor.oct
open Go.RowKit Go.PlainAid
open Go.Proofs.YtfjllaemmmhjnaaDoor.fns
set_option linter.unusedVariables false

def mk (l : List UInt8) : ByteArray := ⟨l.toArray⟩
theorem mk_data (s : ByteArray) : mk s.data.toList = s := by simp [mk]
theorem mk_of {s : ByteArray} {l : List UInt8} (h : s.data.toList = l) : s = mk l := by rw [← h, mk_data]
def wordsB (s : ByteArray) : List ByteArray := (wordsL s.data.toList).map mk
theorem split_wordsB (s : ByteArray) : Lib.splitB ⟨#[32]⟩ 0 (Lib.countB s ⟨#[32]⟩) s = wordsB s := by
  have h := Lib.splitB_data ⟨#[32]⟩ 0 (Lib.countB s ⟨#[32]⟩) s
  have e : Lib.countB s ⟨#[32]⟩ = Lib.count s.data.toList [32] := rfl
  rw [e, show (ByteArray.mk #[32]).data.toList = [32] by rfl, split_words] at h
  rw [e]
  unfold wordsB
  rw [← h, List.map_map]
  symm
  conv => rhs; rw [← List.map_id (Lib.splitB _ _ _ _)]
  apply List.map_congr_left
  intro b _
  exact mk_data b
theorem words_le (l : List UInt8) : (wordsL l).length ≤ l.length + 1 := by
  induction l with
  | nil => simp [wordsL]
  | cons b l ih =>
    by_cases h : b = 32
    · simp [wordsL, h]; omega
    · rw [wordsL, if_neg h]
      cases hw : wordsL l with
      | nil => exact absurd hw (wordsL_ne l)
      | cons w r => rw [hw] at ih; simp [headed] at ih ⊢; omega
theorem wordsB_len (s : ByteArray) : (wordsB s).length ≤ s.size + 1 := by
  have := words_le s.data.toList
  simpa [wordsB] using this

/-- v is a slice that reads as these texts -/
def Strs (w : World) (v : Value) (ss : List ByteArray) : Prop :=
  ∃ (b cap : Nat), v = .slice (some ⟨b, 0, none⟩) ss.length cap ∧ ss.length ≤ cap ∧ cap ≤ maxLen ∧ b < w.heap.size ∧
    ∀ i, i < ss.length → w.cell? ⟨b, i, none⟩ = some (.string (ss.getD i ByteArray.empty))
theorem Strs.on {w w' : World} {v : Value} {ss : List ByteArray} (h : Strs w v ss) (hb : Below w.heap.size w w') : Strs w' v ss := by
  obtain ⟨b, cap, hv, h1, h2, hlt, hc⟩ := h
  exact ⟨b, cap, hv, h1, h2, Nat.lt_of_lt_of_le hlt hb.size, fun i hi => (hb.cell (p := ⟨b, i, none⟩) hlt).trans (hc i hi)⟩
theorem strs_of_owned {w : World} {B : Nat} {v : Value} {ss : List ByteArray} (h : w.ownsRow B 9 1 v ss.length (ss.map Value.string)) (hne : ss ≠ []) : Strs w v ss := by
  rcases h.2 with ⟨rfl, h0⟩ | ⟨g, cap, cur, rfl, hb, hg, hn, hm, hs, ht⟩
  · exact absurd (List.length_eq_zero_iff.1 h0) hne
  · refine ⟨g, cap, rfl, hn, hm, (Array.getElem?_eq_some_iff.1 hg).1, fun i hi => ?_⟩
    rw [h.cellAt i (by omega), List.getElem?_map, List.getElem?_eq_getElem hi]
    simp [List.getD, hi]

def GotStrs (w : World) (ss : List ByteArray) (e : Ending) (w' : World) : Prop := ∃ v, e = .returned v ∧ Strs w' v ss ∧ Below w.heap.size w w'

theorem words_any (s : ByteArray) (m : Int) (w : World) (hs : s.size ≤ 2000) (hm : w.cell? ⟨0, 0, none⟩ = some (.int .i64 m)) :
    Calls Tryd.prog 18 #[.string s] w (GotStrs w (wordsB s)) := by
  have hlt : 0 < w.heap.size := World.block_lt_of_cell? w _ hm
  have HM := Lib.hid hm
  clear hm
  have hl := Lib.splitB_all ⟨#[32]⟩ (by decide) 0 _ s rfl
  rw [split_wordsB] at hl
  have HL := Lib.hid hl
  have hws := wordsB_len s
  clear hl
  go_enter Tryd.func18, Tryd.ntmps18
  go_wp2_with fail
  go_at_call 30; refine (clone_any _ _ hs).mono ?_; rintro e w1 ⟨rfl, b1⟩
  go_wp2_with fail
  go_at_call 31; refine (Tryd.strings_Split s ⟨#[32]⟩ m _ (by omega) ((b1.cell (p := ⟨0, 0, none⟩) hlt).trans HM.out) (by decide)).mono ?_; rintro e w2 ⟨rfl, rfl⟩
  rw [split_wordsB, ← HL.out]
  go_wp2_with fail
  go_ret
  refine ⟨_, rfl, ⟨w1.heap.size, (wordsB s).length, rfl, Nat.le_refl _, by unfold maxLen; omega, by simp, fun i hi => ?_⟩, b1.alloc b1.size _⟩
  rw [World.cell?_alloc_new, List.getElem?_toArray, List.getElem?_map, List.getElem?_eq_getElem hi]
  simp [List.getD, hi]

theorem infoString : (Tryd.prog.info? 9).map (fun i => (i.zero, i.size, i.bytes)) = some (some (.string ⟨#[]⟩), 1, 16) := by kernel_rfl
theorem strs_snoc (l : List ByteArray) (x : ByteArray) : l.map Value.string ++ [Value.string x] = (l ++ [x]).map Value.string := by simp

theorem refWords_any (s : ByteArray) (w : World) (hs : s.size ≤ 2000) :
    Calls Tryd.prog 20 #[.string s] w (GotStrs w (wordsB s)) := by
  obtain ⟨i0, hi, hz0, hz1, hz2⟩ := info_parts infoString
  have hgb := get_bt s
  go_enter Tryd.func20, Tryd.ntmps20
  go_wp2
  go_loopw [3, 4, 5] (fun v fr i wr => ∃ (f k : Nat) (done : List ByteArray), f ≤ k ∧ k ≤ s.size ∧ fr = .int .i64 f ∧ i = .int .i64 k ∧ done.length ≤ f ∧
      (∀ j, j < k - f → (s.data.toList.drop f)[j]? ≠ some 32) ∧ done ++ (wordsL (s.data.toList.drop f)).map mk = wordsB s ∧
      wr.ownsRow w.heap.size 9 1 v done.length (done.map Value.string) ∧ Below w.heap.size w wr) (fun _ _ i _ => s.size - (intOf i).toNat)
  case atStart => exact ⟨0, 0, [], by omega, by omega, rfl, rfl, by simp, fun j hj => by omega, rfl, World.ownsRow_made _ #[] 0 (Nat.le_refl _) (by unfold maxLen; omega) rfl, (Below.refl _ _).alloc (Nat.le_refl _) _⟩
  case round =>
    obtain ⟨f, k, done, hfk, hk, rfl, rfl, hdl, hno, hwd, hown, hb⟩ := hrel
    have HNO := Lib.hid hno
    have HWD := Lib.hid hwd
    have HB := Lib.hid hb
    have hbs := hb.size
    clear hno hwd hb
    by_cases h1 : k < s.size
    · have q0 := bt_nonneg s k
      have q1 := bt_le s k
      have HA := Lib.hid (at_iff (c := 32) h1)
      have hdrop : (s.data.toList.drop f)[k - f]? = s.data.toList[k]? := by rw [List.getElem?_drop]; congr 1; omega
      have HD := Lib.hid hdrop
      clear hdrop
      by_cases h2 : bt s k = 32
      · have HH := Lib.hid (words_hit (k - f) _ HNO.out (by rw [HD.out]; exact HA.out.2 h2))
        have c1 : (bt s k == 32) = true := by simp [h2]
        clear h2
        go_wp2_with (at_builtin; refine wpList_append_own _ rfl (.tmp 17) (.tmp 22) 41 rfl w.heap.size 9 i0 (.string ⟨#[]⟩) 1 16 Tryd.underlying41 hi hz0 hz1 hz2 rfl (by decide) _ _ _ rfl (hown.alloc _) ⟨wr.heap.size, 0, none⟩ 1 1 [.string (s.extract f k)] rfl rfl (by intro j u hj; match j, hj with | 0, hj => simp at hj; subst hj; simp [Addr.add]) (by intro u hu; simp at hu; subst hu; rfl) (by unfold maxLen; omega) (by omega) (by simp; omega) ?_)
        intro v' w1 hown' hgrow _
        have hb' : Below w.heap.size w w1 := (HB.out.alloc hbs _).grown hgrow (by simp; omega) (fun k hk => (hown.lt k hk).1)
        rw [strs_snoc] at hown'
        clear hgrow hown
        go_wp2
        go_roundw
        case rel =>
          refine ⟨k + 1, k + 1, done ++ [s.extract f k], by omega, by omega, by go_num, by go_num, by simp; omega, fun j hj => by omega, ?_, by simpa using hown', hb'⟩
          rw [← HWD.out, HH.out, List.map_cons, List.append_assoc, List.singleton_append, List.drop_drop]
          have e1 : s.extract f k = mk ((s.data.toList.drop f).take (k - f)) := mk_of (by rw [Lib.extract_data])
          have e2 : f + (k - f + 1) = k + 1 := by omega
          rw [e1, e2]
        case measure => simp [intOf]; omega
      · have c1 : (bt s k == 32) = false := by simp [h2]
        have HN := Lib.hid h2
        have HO := Lib.hid hown
        clear h2 hown
        go_wp2
        go_roundw
        case rel => exact ⟨f, k + 1, done, by omega, by omega, rfl, by go_num, hdl, fun j hj => by
          by_cases e : j = k - f
          · rw [e, HD.out]; exact fun h => HN.out (HA.out.1 h)
          · exact HNO.out j (by omega), HWD.out, HO.out, HB.out⟩
        case measure => simp [intOf]; omega
    · have hend : k = s.size := by omega
      have hnone : wordsL (s.data.toList.drop f) = [s.data.toList.drop f] := words_none _ (fun j => by
        by_cases hj : j < k - f
        · exact HNO.out j hj
        · rw [List.getElem?_eq_none (by simp; omega)]; simp)
      have HE := Lib.hid hnone
      have c1 : decide ((k : Int) < (s.size : Int)) = false := by simp; omega
      have hfs : f ≤ s.size := by omega
      clear hend hnone
      go_wp2_with (at_builtin; refine wpList_append_own _ rfl (.tmp 26) (.tmp 30) 41 rfl w.heap.size 9 i0 (.string ⟨#[]⟩) 1 16 Tryd.underlying41 hi hz0 hz1 hz2 rfl (by decide) _ _ _ rfl (hown.alloc _) ⟨wr.heap.size, 0, none⟩ 1 1 [.string (s.extract f s.size)] rfl rfl (by intro j u hj; match j, hj with | 0, hj => simp at hj; subst hj; simp [Addr.add]) (by intro u hu; simp at hu; subst hu; rfl) (by unfold maxLen; omega) (by omega) (by simp; omega) ?_)
      intro v' w1 hown' hgrow _
      have hb' : Below w.heap.size w w1 := (HB.out.alloc hbs _).grown hgrow (by simp; omega) (fun k hk => (hown.lt k hk).1)
      rw [strs_snoc] at hown'
      clear hgrow hown
      have HO := Lib.hid hown'
      clear hown'
      go_wp2
      go_ret
      refine ⟨_, rfl, ?_, hb'⟩
      have e1 : s.extract f s.size = mk (s.data.toList.drop f) := mk_of (Lib.extract_to_end s f)
      have hw : done ++ [s.extract f s.size] = wordsB s := by rw [← HWD.out, HE.out, e1]; rfl
      have ho := HO.out
      rw [hw, (by rw [← hw]; simp : done.length + 1 = (wordsB s).length)] at ho
      exact strs_of_owned ho (by rw [← hw]; simp)
end Go.Proofs.YtfjllaemmmhjnaaDoor.oct
