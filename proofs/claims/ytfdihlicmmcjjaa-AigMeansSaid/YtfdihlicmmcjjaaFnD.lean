/- What a net's copy, and gates on it, are worth. -/
import Derived.Test.YtfdihlicmmcjjaaFnC
namespace Go.Proofs.Ytfdihlicmmcjjaa.agf

/-- all that the gates on a copy tell -/
structure Means (ins : List Bool) (p M : Net) (L : List Int) (a b c x y z : Int) : Prop where
  good : Good M
  len : L.length = p.length + 1
  has : ∀ j, j ≤ p.length → hasB M.length (L.getD j 0) = true ∧ evI (st ins M).1 (L.getD j 0) = (st ins p).1.getD j false
  hx : hasB M.length x = true ∧ hasB M.length y = true ∧ hasB M.length z = true
  ha : hasB M.length a = true ∧ hasB M.length b = true ∧ hasB M.length c = true
  vx : evI (st ins M).1 x = (evI (st ins M).1 a || evI (st ins M).1 b)
  vy : evI (st ins M).1 y = (evI (st ins M).1 a != evI (st ins M).1 b)
  vz : evI (st ins M).1 z = (evI (st ins M).1 a && evI (st ins M).1 b || !evI (st ins M).1 a && evI (st ins M).1 c)
theorem means (ins : List Bool) {p : Net} (hp : Good p) {a b c : Int} (ha : hasB (copyF [] p []).2.length a = true) (hb : hasB (copyF [] p []).2.length b = true) (hc : hasB (copyF [] p []).2.length c = true) :
    Means ins p (muxF (xorF (orF (copyF [] p []).2 a b).2 a b).2 a b c).2 (copyF [] p []).1 a b c (orF (copyF [] p []).2 a b).1 (xorF (orF (copyF [] p []).2 a b).2 a b).1 (muxF (xorF (orF (copyF [] p []).2 a b).2 a b).2 a b c).1 := by
  have hP := copy_put ins hp
  generalize (copyF [] p []).2 = N at *
  generalize (copyF [] p []).1 = L at *
  have s1 := or_step ins hP.good ha hb
  generalize hN1 : (orF N a b).2 = N1 at *
  generalize (orF N a b).1 = x at *
  have s2 := xor_step ins s1.good (s1.ext.has ha) (s1.ext.has hb)
  generalize (xorF N1 a b).2 = N2 at *
  generalize (xorF N1 a b).1 = y at *
  have s3 := mux_step ins s2.good (s2.ext.has (s1.ext.has ha)) (s2.ext.has (s1.ext.has hb)) (s2.ext.has (s1.ext.has hc))
  generalize (muxF N2 a b c).2 = M at *
  generalize (muxF N2 a b c).1 = z at *
  have e3 := s3.ext
  have e23 := s2.ext.trans e3
  have e13 := s1.ext.trans e23
  have va : evI (st ins M).1 a = evI (st ins N).1 a := evI_ext ins e13 ha
  have vb : evI (st ins M).1 b = evI (st ins N).1 b := evI_ext ins e13 hb
  refine ⟨s3.good, hP.len, fun j hj => ⟨e13.has (hP.has j hj), ?_⟩, ⟨e23.has s1.has, e3.has s2.has, s3.has⟩, ⟨e13.has ha, e13.has hb, e13.has hc⟩, ?_, ?_, ?_⟩
  · rw [evI_ext ins e13 (hP.has j hj)]; exact hP.val j hj
  · rw [va, vb, evI_ext ins e23 s1.has]; exact s1.val
  · rw [va, vb, evI_ext ins e3 s2.has, s2.val, evI_ext ins s1.ext ha, evI_ext ins s1.ext hb]
  · rw [s3.val, va, vb, evI_ext ins e13 hc, evI_ext ins (s1.ext.trans s2.ext) ha, evI_ext ins (s1.ext.trans s2.ext) hb, evI_ext ins (s1.ext.trans s2.ext) hc]
end Go.Proofs.Ytfdihlicmmcjjaa.agf
