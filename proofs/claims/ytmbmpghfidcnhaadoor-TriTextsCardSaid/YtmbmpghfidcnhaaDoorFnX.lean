/- Plain functions: signs of values, and a row that is filled in part. -/
import Derived.Test.YtmbmpghfidcnhaaDoorFnT
import Derived.OwnWalk
import Derived.Lib.Bytes
namespace Go.Proofs.YtmbmpghfidcnhaaDoor.fns
open Go.PlainAid

/-- the cells of a row that is filled so far -/
def rowTo (cs : List Value) (k : Nat) (z : Value) : List Value := cs.take k ++ List.replicate (cs.length - k) z
theorem rowTo_zero (cs : List Value) (z : Value) : rowTo cs 0 z = List.replicate cs.length z := by simp [rowTo]
theorem rowTo_all (cs : List Value) (z : Value) : rowTo cs cs.length z = cs := by simp [rowTo]
theorem rowTo_len (cs : List Value) (k : Nat) (z : Value) (h : k ≤ cs.length) : (rowTo cs k z).length = cs.length := by simp [rowTo]; omega
theorem rowTo_set (cs : List Value) (k : Nat) (z u : Value) (h : cs[k]? = some u) : (rowTo cs k z).set k u = rowTo cs (k + 1) z := by
  have hk : k < cs.length := (List.getElem?_eq_some_iff.1 h).1
  have hu : cs[k] = u := (List.getElem?_eq_some_iff.1 h).2
  unfold rowTo
  have hl : (cs.take k).length = k := by rw [List.length_take]; omega
  rw [List.take_succ_eq_append_getElem hk, (by omega : cs.length - k = (cs.length - (k + 1)) + 1), List.replicate_succ, List.set_append_right _ _ (by omega), hl, hu]
  simp
theorem made_one (z : Value) (n : Nat) : (madeCells #[z] n).toList = List.replicate n z := by
  simp [madeCells, Nat.mod_one, List.map_const']

/-- a value's sign, and a sign's value -/
def sg (a : Int) : UInt8 := if tv a = 0 then 48 else if tv a = 1 then 49 else 120
def signs (l : List Int) : ByteArray := ⟨(l.map sg).toArray⟩
def sv (b : Int) : Int := if b = 48 then 0 else if b = 49 then 1 else if b = 120 then 2 else -1
def good3 (s : ByteArray) (k : Nat) : Prop := ∀ i, i < k → 0 ≤ sv (bt s i)
instance (s : ByteArray) (k : Nat) : Decidable (good3 s k) := by unfold good3; exact inferInstance
def valsTo (s : ByteArray) (k : Nat) : List Int := (List.range k).map fun i => sv (bt s i)
def valsR (s : ByteArray) : List Int × Int := if good3 s s.size then (valsTo s s.size, 0) else ([], 2)
theorem sg_zero {a : Int} (h : tv a = 0) : sg a = 48 := by unfold sg; rw [if_pos h]
theorem sg_one {a : Int} (h : tv a = 1) : sg a = 49 := by unfold sg; rw [if_neg (by omega), if_pos h]
theorem sg_two {a : Int} (h : tv a = 2) : sg a = 120 := by unfold sg; rw [if_neg (by omega), if_neg (by omega)]
theorem sv_bad {b : Int} (h0 : b ≠ 48) (h1 : b ≠ 49) (h2 : b ≠ 120) : sv b = -1 := by unfold sv; rw [if_neg h0, if_neg h1, if_neg h2]
theorem sv_bd (b : Int) : -1 ≤ sv b ∧ sv b ≤ 2 := by unfold sv; split <;> (try split) <;> (try split) <;> omega
theorem sv_cases (b : Int) : b = 48 ∨ b = 49 ∨ b = 120 ∨ (b ≠ 48 ∧ b ≠ 49 ∧ b ≠ 120) := by omega
theorem valsTo_len (s : ByteArray) (k : Nat) : (valsTo s k).length = k := by simp [valsTo]
theorem valsTo_succ (s : ByteArray) (k : Nat) : valsTo s (k + 1) = valsTo s k ++ [sv (bt s k)] := by simp [valsTo, List.range_succ]
theorem valsR_good {s : ByteArray} (h : good3 s s.size) : valsR s = (valsTo s s.size, 0) := by unfold valsR; rw [if_pos h]
theorem valsR_bad {s : ByteArray} {k : Nat} (hk : k < s.size) (h : sv (bt s k) = -1) : valsR s = ([], 2) := by
  unfold valsR; rw [if_neg]; intro hg; have := hg k hk; omega
theorem valsR_cases (s : ByteArray) : (good3 s s.size ∧ valsR s = (valsTo s s.size, 0)) ∨ valsR s = ([], 2) := by
  by_cases h : good3 s s.size
  · exact .inl ⟨h, valsR_good h⟩
  · right; unfold valsR; rw [if_neg h]
theorem good_step {s : ByteArray} {k : Nat} (h : good3 s k) (h2 : 0 ≤ sv (bt s k)) : good3 s (k + 1) := fun i hi => by
  by_cases e : i = k
  · exact e ▸ h2
  · exact h i (by omega)
theorem tv_sv {b : Int} (h : 0 ≤ sv b) : tv (sv b) = sv b := by
  have h2 := (sv_bd b).2
  unfold tv; split
  · omega
  · split <;> omega
theorem signs_size (l : List Int) : (signs l).size = l.length := by simp [signs, ByteArray.size]
theorem signs_vals {s : ByteArray} (h : good3 s s.size) : signs (valsTo s s.size) = s := by
  apply ByteArray.ext
  apply Array.ext
  · show (signs _).size = s.size
    rw [signs_size, valsTo_len]
  · intro i h1 h2
    have hi : i < s.size := h2
    have hb := h i hi
    have hx : bt s i = ((s[i]'hi).toNat : Int) := (get_bt s i hi).symm
    simp only [signs, valsTo, List.getElem_toArray, List.getElem_map, List.getElem_range]
    show sg (sv (bt s i)) = s[i]'hi
    apply UInt8.toNat_inj.1
    rcases sv_cases (bt s i) with e | e | e | ⟨e0, e1, e2⟩
    · rw [e] at hx ⊢; show (48 : UInt8).toNat = _; have : (48 : UInt8).toNat = 48 := rfl; omega
    · rw [e] at hx ⊢; show (49 : UInt8).toNat = _; have : (49 : UInt8).toNat = 49 := rfl; omega
    · rw [e] at hx ⊢; show (120 : UInt8).toNat = _; have : (120 : UInt8).toNat = 120 := rfl; omega
    · rw [sv_bad e0 e1 e2] at hb; omega
theorem str_snoc (l : List UInt8) (b : UInt8) : ByteArray.mk l.toArray ++ ⟨#[b]⟩ = ⟨(l ++ [b]).toArray⟩ := by
  rw [ByteArray.mk_append_mk]
theorem two_ret {v : Value} {c : Int} {r : List Int × Int} {bs : List Int} (h : r = (bs, c)) : Ending.returned (.tuple #[v, .int .i64 c]) = .returned (.tuple #[v, .int .i64 r.2]) := by rw [h]
end Go.Proofs.YtmbmpghfidcnhaaDoor.fns
