import Derived.Test.YtbpjflghkkkenaaMg20
/- The walk of the document's Same of circuits. (Printed by mkN14.py.) -/
namespace Go.Proofs.Ytbpjflghkkkenaa.row
open Go.RowKit
open Go.Proofs.Ytbpjflghkkkenaa.mem (own_on addr_add)
open Go.Proofs.Ytbpjflghkkkenaa.ints (Ints refInts_any below_drewN)

theorem refInts_of {xs ys : List Int} {b : Bool} (h : decide (xs = ys) = b) {v u : Value} (w : World) (hv : Ints w v xs) (hu : Ints w u ys) :
    Calls Try.prog 14 #[v, u] w fun e w' => e = .returned (.bool b) ∧ Below w.heap.size w w' := by
  have := refInts_any xs ys v u w hv hu; rw [h] at this; exact this
/-- two circuits in memory, boxed -/
structure Bx (P Q : Nat → Prop) (W : World) (D : CD) (F : CF) (E : CD) (G : CF) (w : World) : Prop where
  x : Blk w W.heap.size (ccells D F)
  y : Blk w (W.heap.size + 1) (ccells E G)
  i : InC P w D F
  j : InC Q w E G
  bel : Below W.heap.size W w
theorem Bx.on {P Q : Nat → Prop} {W : World} {D E : CD} {F G : CF} {w w' : World} (h : Bx P Q W D F E G w) (hb : Below w.heap.size w w') : Bx P Q W D F E G w' :=
  ⟨h.x.on hb, h.y.on hb, h.i.on hb, h.j.on hb, h.bel.trans (hb.mono h.bel.size)⟩
theorem bx_new {P Q : Nat → Prop} {D E : CD} {F G : CF} (W : World) (hc : InC P W D F) (hd : InC Q W E G) (t : TypeId) : Bx P Q W D F E G ((W.alloc (.cells (ccells D F) t)).alloc (.cells (ccells E G) t)) := by
  have q : ∀ (w : World) (b : Obj), Below w.heap.size w (w.alloc b) := fun w b => (Below.refl _ _).alloc (Nat.le_refl _) _
  have s1 : (W.alloc (.cells (ccells D F) t)).heap.size = W.heap.size + 1 := by simp
  have b2 := blk_new (W.alloc (.cells (ccells D F) t)) (ccells E G) t
  rw [s1] at b2
  exact ⟨(blk_new W _ t).on (q _ _), b2, (hc.on (q _ _)).on (q _ _), (hd.on (q _ _)).on (q _ _), (q _ _).trans ((q _ _).mono (by omega))⟩
def sameB (D E : CD) : Bool := decide (D.max = E.max) && (decide (D.com.toList = E.com.toList) && (decide (D.ins = E.ins) && (decide (D.outs = E.outs) && (decide (D.bads = E.bads) && (decide (D.cons = E.cons) &&
  (decide (D.lats = E.lats) && (decide (D.gates = E.gates) && decide (D.syms = E.syms))))))))
theorem tri_neqL (a b c x y z : Int) (w : World) : (binOp .neq 45 (.agg #[.int .i64 a, .int .i64 b, .int .i64 c]) (.agg #[.int .i64 x, .int .i64 y, .int .i64 z])).run Try.prog w = .ok (.bool (!(a == x && (b == y && c == z)))) w := by
  have u3 := Try.underlying3
  have a3 := Try.isAgg3
  have z3 := Try.sizeOf3
  have hS : Try.prog.underlying 45 = some (.struct (Try.prog.fieldsOf 45)) := by kernel_rfl
  have hp : Try.prog.stoodInHeld 45 = false := by kernel_rfl
  rw [run_neq_struct, show (10000 : Nat) = 9999 + 1 from rfl, run_equalIn_agg w 9999 45 _ _ hS hp]
  simp only [Program.fieldsOf, Try.underlying45]
  go_simp
  by_cases h1 : a = x <;> by_cases h2 : b = y <;> by_cases h3 : c = z <;> simp [h1, h2, h3]
theorem tri_neqG (a b c x y z : Int) (w : World) : (binOp .neq 47 (.agg #[.int .i64 a, .int .i64 b, .int .i64 c]) (.agg #[.int .i64 x, .int .i64 y, .int .i64 z])).run Try.prog w = .ok (.bool (!(a == x && (b == y && c == z)))) w := by
  have u3 := Try.underlying3
  have a3 := Try.isAgg3
  have z3 := Try.sizeOf3
  have hS : Try.prog.underlying 47 = some (.struct (Try.prog.fieldsOf 47)) := by kernel_rfl
  have hp : Try.prog.stoodInHeld 47 = false := by kernel_rfl
  rw [run_neq_struct, show (10000 : Nat) = 9999 + 1 from rfl, run_equalIn_agg w 9999 47 _ _ hS hp]
  simp only [Program.fieldsOf, Try.underlying47]
  go_simp
  by_cases h1 : a = x <;> by_cases h2 : b = y <;> by_cases h3 : c = z <;> simp [h1, h2, h3]
theorem sym_neq (a b : Int) (c : ByteArray) (x y : Int) (z : ByteArray) (w : World) : (binOp .neq 59 (.agg #[.int .u8 a, .int .i64 b, .string c]) (.agg #[.int .u8 x, .int .i64 y, .string z])).run Try.prog w = .ok (.bool (!(a == x && (b == y && c.toList == z.toList)))) w := by
  have u3 := Try.underlying3
  have a3 := Try.isAgg3
  have z3 := Try.sizeOf3
  have u4 := Try.underlying5
  have a4 := Try.isAgg5
  have z4 := Try.sizeOf5
  have u5 := Try.underlying9
  have a5 := Try.isAgg9
  have z5 := Try.sizeOf9
  have hS : Try.prog.underlying 59 = some (.struct (Try.prog.fieldsOf 59)) := by kernel_rfl
  have hp : Try.prog.stoodInHeld 59 = false := by kernel_rfl
  rw [run_neq_struct, show (10000 : Nat) = 9999 + 1 from rfl, run_equalIn_agg w 9999 59 _ _ hS hp]
  simp only [Program.fieldsOf, Try.underlying59]
  go_simp
  by_cases h1 : a = x <;> by_cases h2 : b = y <;> by_cases h3 : c.toList = z.toList <;> simp [h1, h2, h3]
theorem get_of {l : List Tri} {k : Nat} (h : k < l.length) : l[k]? = some (l.getD k (0, 0, 0)) := by rw [List.getElem?_eq_getElem h]; simp [List.getD, h]
theorem ext_of {β : Type} {l m : List β} (h : l.length = m.length) (hs : ∀ t, t < l.length → l[t]? = m[t]?) : l = m := by
  apply List.ext_getElem?
  intro t
  by_cases ht : t < l.length
  · exact hs t ht
  · rw [List.getElem?_eq_none (by omega), List.getElem?_eq_none (by omega)]
theorem bytes_eq {a b : ByteArray} (h : a.toList = b.toList) : a = b := by
  rw [ByteArray.toList_eq, ByteArray.toList_eq] at h
  exact ByteArray.ext (Array.toList_inj.1 h)
/-- how a truth is told from here -/
def Ends (D E : CD) (W w : World) (b : Bool) : Prop := ∀ u, Below w.heap.size w u → SaysW (sameB D E) W (.returned (.bool b)) u
theorem ends_of {D E : CD} {W w : World} {b : Bool} (h : sameB D E = b) (hb : Below W.heap.size W w) : Ends D E W w b := by
  intro u hu
  rw [h]
  exact ⟨rfl, hb.trans (hu.mono hb.size)⟩
set_option maxRecDepth 100000 in
set_option maxHeartbeats 6400000 in
theorem refSame_any (D : CD) (F : CF) (E : CD) (G : CF) (P Q : Nat → Prop) (w : World) (hc : InC P w D F) (hd : InC Q w E G) (hl : Lens D) :
    Calls Try.prog 17 #[cval D F, cval E G] w (SaysW (sameB D E) w) := by
  have HC := Lib.hid hc
  have HD := Lib.hid hd
  have HL := Lib.hid hl
  clear hc hd hl
  go_enter Try.func17, Try.ntmps17
  go_upto_region 1 with fail
  have BX := Lib.hid (bx_new w HC.out HD.out 27)
  generalize ((w.alloc (.cells (ccells D F) 27)).alloc (.cells (ccells E G) 27)) = v at *
  have hX : w.heap.size + 1 < v.heap.size := BX.out.y.lt
  have x0 : v.cell? ⟨w.heap.size, 0, none⟩ = some (.int .i64 D.max) := (BX.out.x.cell 0).1
  have y0 : v.cell? ⟨w.heap.size + 1, 0, none⟩ = some (.int .i64 E.max) := (BX.out.y.cell 0).1
  have x8 : v.cell? ⟨w.heap.size, 8, none⟩ = some (.string D.com) := (BX.out.x.cell 8).1
  have y8 : v.cell? ⟨w.heap.size + 1, 8, none⟩ = some (.string E.com) := (BX.out.y.cell 8).1
  cases q0 : (D.max == E.max) with
  | false =>
    have q0n : (D.max != E.max) = true := by simpa using q0
    have HT := Lib.hid (ends_of (W := w) (w := v) (b := false) (show sameB D E = false by unfold sameB; rw [show decide (D.max = E.max) = false by simpa using q0]; simp) BX.out.bel)
    go_wp2_with fail
    go_ret
    exact HT.out _ (Below.refl _ _)
  | true =>
    have q0n : (D.max != E.max) = false := by simpa using q0
    have Q0 : Hid (decide (D.max = E.max) = true) := Lib.hid (by simpa using q0)
    cases q8 : (D.com.toList == E.com.toList) with
    | false =>
      have HT := Lib.hid (ends_of (W := w) (w := v) (b := false) (show sameB D E = false by unfold sameB; rw [show decide (D.com.toList = E.com.toList) = false by simpa using q8]; simp) BX.out.bel)
      go_wp2_with fail
      go_ret
      exact HT.out _ (Below.refl _ _)
    | true =>
      have Q8 : Hid (decide (D.com.toList = E.com.toList) = true) := Lib.hid (by simpa using q8)
      have x1 : v.cell? ⟨w.heap.size, 1, none⟩ = some (.slice F.ai D.ins.length F.ci) := (BX.out.x.cell 1).1
      have y1 : v.cell? ⟨w.heap.size + 1, 1, none⟩ = some (.slice G.ai E.ins.length G.ci) := (BX.out.y.cell 1).1
      cases q1 : decide (D.ins = E.ins) with
      | false =>
        have QQ := Lib.hid q1
        clear q1
        go_wp2_with fail
        go_at_call 14; refine (refInts_of QQ.out _ BX.out.i.i.ints BX.out.j.i.ints).mono ?_; rintro e w1 ⟨rfl, hb⟩
        have HT := Lib.hid ((ends_of (W := w) (w := v) (b := false) (show sameB D E = false by unfold sameB; rw [QQ.out]; simp) BX.out.bel) _ hb)
        clear hb
        go_wp2_with fail
        go_ret
        exact HT.out
      | true =>
        have Q1 := Lib.hid q1
        clear q1
        go_wp2_with fail
        go_at_call 14; refine (refInts_of Q1.out _ BX.out.i.i.ints BX.out.j.i.ints).mono ?_; rintro e w1 ⟨rfl, hb⟩
        have BX2 := Lib.hid (BX.out.on hb)
        have hX2 : w.heap.size + 1 < w1.heap.size := BX2.out.y.lt
        clear hb BX hX x0 y0 x8 y8 x1 y1
        have BX := BX2
        have hX := hX2
        clear BX2 hX2
        have x3 : w1.cell? ⟨w.heap.size, 3, none⟩ = some (.slice F.ao D.outs.length F.co) := (BX.out.x.cell 3).1
        have y3 : w1.cell? ⟨w.heap.size + 1, 3, none⟩ = some (.slice G.ao E.outs.length G.co) := (BX.out.y.cell 3).1
        cases q3 : decide (D.outs = E.outs) with
        | false =>
          have QQ := Lib.hid q3
          clear q3
          go_wp2_with fail
          go_at_call 14; refine (refInts_of QQ.out _ BX.out.i.o.ints BX.out.j.o.ints).mono ?_; rintro e w2 ⟨rfl, hb⟩
          have HT := Lib.hid ((ends_of (W := w) (w := w1) (b := false) (show sameB D E = false by unfold sameB; rw [QQ.out]; simp) BX.out.bel) _ hb)
          clear hb
          go_wp2_with fail
          go_ret
          exact HT.out
        | true =>
          have Q3 := Lib.hid q3
          clear q3
          go_wp2_with fail
          go_at_call 14; refine (refInts_of Q3.out _ BX.out.i.o.ints BX.out.j.o.ints).mono ?_; rintro e w2 ⟨rfl, hb⟩
          have BX2 := Lib.hid (BX.out.on hb)
          have hX2 : w.heap.size + 1 < w2.heap.size := BX2.out.y.lt
          clear hb BX hX x3 y3
          have BX := BX2
          have hX := hX2
          clear BX2 hX2
          have x4 : w2.cell? ⟨w.heap.size, 4, none⟩ = some (.slice F.ab D.bads.length F.cb) := (BX.out.x.cell 4).1
          have y4 : w2.cell? ⟨w.heap.size + 1, 4, none⟩ = some (.slice G.ab E.bads.length G.cb) := (BX.out.y.cell 4).1
          cases q4 : decide (D.bads = E.bads) with
          | false =>
            have QQ := Lib.hid q4
            clear q4
            go_wp2_with fail
            go_at_call 14; refine (refInts_of QQ.out _ BX.out.i.b.ints BX.out.j.b.ints).mono ?_; rintro e w3 ⟨rfl, hb⟩
            have HT := Lib.hid ((ends_of (W := w) (w := w2) (b := false) (show sameB D E = false by unfold sameB; rw [QQ.out]; simp) BX.out.bel) _ hb)
            clear hb
            go_wp2_with fail
            go_ret
            exact HT.out
          | true =>
            have Q4 := Lib.hid q4
            clear q4
            go_wp2_with fail
            go_at_call 14; refine (refInts_of Q4.out _ BX.out.i.b.ints BX.out.j.b.ints).mono ?_; rintro e w3 ⟨rfl, hb⟩
            have BX2 := Lib.hid (BX.out.on hb)
            have hX2 : w.heap.size + 1 < w3.heap.size := BX2.out.y.lt
            clear hb BX hX x4 y4
            have BX := BX2
            have hX := hX2
            clear BX2 hX2
            have x5 : w3.cell? ⟨w.heap.size, 5, none⟩ = some (.slice F.ac D.cons.length F.cc) := (BX.out.x.cell 5).1
            have y5 : w3.cell? ⟨w.heap.size + 1, 5, none⟩ = some (.slice G.ac E.cons.length G.cc) := (BX.out.y.cell 5).1
            cases q5 : decide (D.cons = E.cons) with
            | false =>
              have QQ := Lib.hid q5
              clear q5
              go_wp2_with fail
              go_at_call 14; refine (refInts_of QQ.out _ BX.out.i.c.ints BX.out.j.c.ints).mono ?_; rintro e w4 ⟨rfl, hb⟩
              have HT := Lib.hid ((ends_of (W := w) (w := w3) (b := false) (show sameB D E = false by unfold sameB; rw [QQ.out]; simp) BX.out.bel) _ hb)
              clear hb
              go_wp2_with fail
              go_ret
              exact HT.out
            | true =>
              have Q5 := Lib.hid q5
              clear q5
              go_wp2_with fail
              go_at_call 14; refine (refInts_of Q5.out _ BX.out.i.c.ints BX.out.j.c.ints).mono ?_; rintro e w4 ⟨rfl, hb⟩
              have BX2 := Lib.hid (BX.out.on hb)
              have hX2 : w.heap.size + 1 < w4.heap.size := BX2.out.y.lt
              clear hb BX hX x5 y5
              have BX := BX2
              have hX := hX2
              clear BX2 hX2
              have x2 : w4.cell? ⟨w.heap.size, 2, none⟩ = some (.slice F.al D.lats.length F.cl) := (BX.out.x.cell 2).1
              have y2 : w4.cell? ⟨w.heap.size + 1, 2, none⟩ = some (.slice G.al E.lats.length G.cl) := (BX.out.y.cell 2).1
              have x6 : w4.cell? ⟨w.heap.size, 6, none⟩ = some (.slice F.ag D.gates.length F.cg) := (BX.out.x.cell 6).1
              have y6 : w4.cell? ⟨w.heap.size + 1, 6, none⟩ = some (.slice G.ag E.gates.length G.cg) := (BX.out.y.cell 6).1
              have x7 : w4.cell? ⟨w.heap.size, 7, none⟩ = some (.slice F.as_ D.syms.length F.cs) := (BX.out.x.cell 7).1
              have y7 : w4.cell? ⟨w.heap.size + 1, 7, none⟩ = some (.slice G.as_ E.syms.length G.cs) := (BX.out.y.cell 7).1
              cases q2 : ((D.lats.length : Int) != (E.lats.length : Int)) with
              | true =>
                have hne : D.lats.length ≠ E.lats.length := fun e => (bne_iff_ne.1 q2) (by rw [e])
                have HT := Lib.hid (ends_of (W := w) (w := w4) (b := false) (show sameB D E = false by unfold sameB; rw [show decide (D.lats = E.lats) = false from decide_eq_false (fun e => hne (by rw [e]))]; simp) BX.out.bel)
                clear hne
                go_wp2_with fail
                go_ret
                exact HT.out _ (Below.refl _ _)
              | false =>
                have N2 : Hid (D.lats.length = E.lats.length) := Lib.hid (by have h := bne_eq_false_iff_eq.1 q2; omega)
                cases q6 : ((D.gates.length : Int) != (E.gates.length : Int)) with
                | true =>
                  have hne : D.gates.length ≠ E.gates.length := fun e => (bne_iff_ne.1 q6) (by rw [e])
                  have HT := Lib.hid (ends_of (W := w) (w := w4) (b := false) (show sameB D E = false by unfold sameB; rw [show decide (D.gates = E.gates) = false from decide_eq_false (fun e => hne (by rw [e]))]; simp) BX.out.bel)
                  clear hne
                  go_wp2_with fail
                  go_ret
                  exact HT.out _ (Below.refl _ _)
                | false =>
                  have N6 : Hid (D.gates.length = E.gates.length) := Lib.hid (by have h := bne_eq_false_iff_eq.1 q6; omega)
                  cases q7 : ((D.syms.length : Int) != (E.syms.length : Int)) with
                  | true =>
                    have hne : D.syms.length ≠ E.syms.length := fun e => (bne_iff_ne.1 q7) (by rw [e])
                    have HT := Lib.hid (ends_of (W := w) (w := w4) (b := false) (show sameB D E = false by unfold sameB; rw [show decide (D.syms = E.syms) = false from decide_eq_false (fun e => hne (by rw [e]))]; simp) BX.out.bel)
                    clear hne
                    go_wp2_with fail
                    go_ret
                    exact HT.out _ (Below.refl _ _)
                  | false =>
                    have N7 : Hid (D.syms.length = E.syms.length) := Lib.hid (by have h := bne_eq_false_iff_eq.1 q7; omega)
                    go_wp2_with fail
                    clear q2 q6 q7 x2 y2 x6 y6 x7 y7
                    have ln2 := HL.out.l
                    go_loopw [5] (fun i wr => ∃ k : Nat, k ≤ D.lats.length ∧ i = .int .i64 k ∧ Hid (∀ t, t < k → D.lats[t]? = E.lats[t]?) ∧ Hid (Bx P Q w D F E G wr)) (fun i _ => D.lats.length - (intOf i).toNat)
                    case atStart => exact ⟨0, Nat.zero_le _, by go_num, Lib.hid (fun t ht => by omega), BX⟩
                    case round =>
                      clear BX hX
                      obtain ⟨k, hk, rfl, HS, BX⟩ := hrel
                      obtain ⟨wo, rfl⟩ : ∃ wo : World, wo = wr := ⟨_, rfl⟩
                      have hX : w.heap.size + 1 < wo.heap.size := BX.out.y.lt
                      have d2 : 0 ≤ (k : Int) := by omega
                      have x2 : wo.cell? ⟨w.heap.size, 2, none⟩ = some (.slice F.al D.lats.length F.cl) := (BX.out.x.cell 2).1
                      have y2 : wo.cell? ⟨w.heap.size + 1, 2, none⟩ = some (.slice G.al E.lats.length G.cl) := (BX.out.y.cell 2).1
                      by_cases hlt : k < D.lats.length
                      · obtain ⟨b, off, hba, hbl, e0, e1, e2⟩ := Rw.at3 BX.out.i.l hlt
                        obtain ⟨b', off', hba', hbl', g0, g1, g2⟩ := Rw.at3 BX.out.j.l (i := k) (by rw [← N2.out]; exact hlt)
                        have hD := Lib.hid (get_of (l := D.lats) hlt)
                        have hE := Lib.hid (get_of (l := E.lats) (k := k) (by rw [← N2.out]; exact hlt))
                        obtain ⟨t, ht⟩ : ∃ t, t = D.lats.getD k (0, 0, 0) := ⟨_, rfl⟩
                        obtain ⟨r, hr⟩ : ∃ r, r = E.lats.getD k (0, 0, 0) := ⟨_, rfl⟩
                        rw [← ht] at e0 e1 e2 hD
                        rw [← hr] at g0 g1 g2 hE
                        clear ht hr
                        rw [hba] at x2
                        rw [hba', ← N2.out] at y2
                        clear hba hba'
                        obtain ⟨t0, t1, t2⟩ := t
                        obtain ⟨r0, r1, r2⟩ := r
                        simp only at e0 e1 e2 g0 g1 g2
                        have d1 : decide ((k : Int) < (D.lats.length : Int)) = true := by simp; omega
                        have d3 : (k : Int) < (D.lats.length : Int) := by omega
                        obtain ⟨bb, hbb⟩ : ∃ bb, bb = (t0 == r0 && (t1 == r1 && t2 == r2)) := ⟨_, rfl⟩
                        have hne := fun w => tri_neqL t0 t1 t2 r0 r1 r2 w
                        rw [← hbb] at hne
                        have HBB := Lib.hid hbb
                        have hgd : Try.prog.eqGuardType Try.prog.depth 45 = false := by kernel_rfl
                        clear hbb
                        cases bb with
                        | false =>
                          have HNE : Hid (decide (D.lats = E.lats) = false) := Lib.hid (decide_eq_false (fun e => by
                            have h1 := hD.out
                            rw [e, hE.out] at h1
                            have h2 := Option.some.inj h1
                            simp only [Prod.mk.injEq] at h2
                            obtain ⟨rfl, rfl, rfl⟩ := h2
                            have h3 := HBB.out
                            simp at h3))
                          have HT := Lib.hid (ends_of (W := w) (w := wo) (b := false) (show sameB D E = false by unfold sameB; rw [HNE.out]; simp) BX.out.bel)
                          go_wp2_with fail
                          go_quiet (fail)
                          go_wp2_with fail
                          go_ret
                          exact HT.out _ (below_drewN (Below.refl _ _) _)
                        | true =>
                          have HS2 : Hid (∀ t, t < k + 1 → D.lats[t]? = E.lats[t]?) := Lib.hid (fun t ht => by
                            by_cases e : t = k
                            · subst e
                              rw [hD.out, hE.out]
                              have h := HBB.out.symm
                              simp only [Bool.and_eq_true, beq_iff_eq] at h
                              obtain ⟨rfl, rfl, rfl⟩ := h; rfl
                            · exact HS.out t (by omega))
                          have HBX := Lib.hid (fun q => BX.out.on (below_drewN (Below.refl _ _) q))
                          go_wp2_with fail
                          go_quiet (fail)
                          go_wp2_with fail
                          go_roundw
                          case rel => exact ⟨k + 1, by omega, by go_num, HS2, Lib.hid (HBX.out _)⟩
                          case measure => simp [intOf]; omega
                      · have hkn : k = D.lats.length := by omega
                        subst hkn
                        have E2 : Hid (decide (D.lats = E.lats) = true) := Lib.hid (decide_eq_true (ext_of N2.out HS.out))
                        have d1 : decide ((D.lats.length : Int) < (D.lats.length : Int)) = false := by simp
                        clear hlt hk HS
                        go_wp2_with fail
                        clear d1 d2 x2 y2 ln2
                        have ln6 := HL.out.g
                        go_loopw [6] (fun i wr => ∃ k : Nat, k ≤ D.gates.length ∧ i = .int .i64 k ∧ Hid (∀ t, t < k → D.gates[t]? = E.gates[t]?) ∧ Hid (Bx P Q w D F E G wr)) (fun i _ => D.gates.length - (intOf i).toNat)
                        case atStart => exact ⟨0, Nat.zero_le _, by go_num, Lib.hid (fun t ht => by omega), BX⟩
                        case round =>
                          clear BX hX
                          obtain ⟨k, hk, rfl, HS, BX⟩ := hrel
                          obtain ⟨wo, rfl⟩ : ∃ wo : World, wo = wr := ⟨_, rfl⟩
                          have hX : w.heap.size + 1 < wo.heap.size := BX.out.y.lt
                          have d2 : 0 ≤ (k : Int) := by omega
                          have x6 : wo.cell? ⟨w.heap.size, 6, none⟩ = some (.slice F.ag D.gates.length F.cg) := (BX.out.x.cell 6).1
                          have y6 : wo.cell? ⟨w.heap.size + 1, 6, none⟩ = some (.slice G.ag E.gates.length G.cg) := (BX.out.y.cell 6).1
                          by_cases hlt : k < D.gates.length
                          · obtain ⟨b, off, hba, hbl, e0, e1, e2⟩ := Rw.at3 BX.out.i.g hlt
                            obtain ⟨b', off', hba', hbl', g0, g1, g2⟩ := Rw.at3 BX.out.j.g (i := k) (by rw [← N6.out]; exact hlt)
                            have hD := Lib.hid (get_of (l := D.gates) hlt)
                            have hE := Lib.hid (get_of (l := E.gates) (k := k) (by rw [← N6.out]; exact hlt))
                            obtain ⟨t, ht⟩ : ∃ t, t = D.gates.getD k (0, 0, 0) := ⟨_, rfl⟩
                            obtain ⟨r, hr⟩ : ∃ r, r = E.gates.getD k (0, 0, 0) := ⟨_, rfl⟩
                            rw [← ht] at e0 e1 e2 hD
                            rw [← hr] at g0 g1 g2 hE
                            clear ht hr
                            rw [hba] at x6
                            rw [hba', ← N6.out] at y6
                            clear hba hba'
                            obtain ⟨t0, t1, t2⟩ := t
                            obtain ⟨r0, r1, r2⟩ := r
                            simp only at e0 e1 e2 g0 g1 g2
                            have d1 : decide ((k : Int) < (D.gates.length : Int)) = true := by simp; omega
                            have d3 : (k : Int) < (D.gates.length : Int) := by omega
                            obtain ⟨bb, hbb⟩ : ∃ bb, bb = (t0 == r0 && (t1 == r1 && t2 == r2)) := ⟨_, rfl⟩
                            have hne := fun w => tri_neqG t0 t1 t2 r0 r1 r2 w
                            rw [← hbb] at hne
                            have HBB := Lib.hid hbb
                            have hgd : Try.prog.eqGuardType Try.prog.depth 47 = false := by kernel_rfl
                            clear hbb
                            cases bb with
                            | false =>
                              have HNE : Hid (decide (D.gates = E.gates) = false) := Lib.hid (decide_eq_false (fun e => by
                                have h1 := hD.out
                                rw [e, hE.out] at h1
                                have h2 := Option.some.inj h1
                                simp only [Prod.mk.injEq] at h2
                                obtain ⟨rfl, rfl, rfl⟩ := h2
                                have h3 := HBB.out
                                simp at h3))
                              have HT := Lib.hid (ends_of (W := w) (w := wo) (b := false) (show sameB D E = false by unfold sameB; rw [HNE.out]; simp) BX.out.bel)
                              go_wp2_with fail
                              go_quiet (fail)
                              go_wp2_with fail
                              go_ret
                              exact HT.out _ (below_drewN (Below.refl _ _) _)
                            | true =>
                              have HS2 : Hid (∀ t, t < k + 1 → D.gates[t]? = E.gates[t]?) := Lib.hid (fun t ht => by
                                by_cases e : t = k
                                · subst e
                                  rw [hD.out, hE.out]
                                  have h := HBB.out.symm
                                  simp only [Bool.and_eq_true, beq_iff_eq] at h
                                  obtain ⟨rfl, rfl, rfl⟩ := h; rfl
                                · exact HS.out t (by omega))
                              have HBX := Lib.hid (fun q => BX.out.on (below_drewN (Below.refl _ _) q))
                              go_wp2_with fail
                              go_quiet (fail)
                              go_wp2_with fail
                              go_roundw
                              case rel => exact ⟨k + 1, by omega, by go_num, HS2, Lib.hid (HBX.out _)⟩
                              case measure => simp [intOf]; omega
                          · have hkn : k = D.gates.length := by omega
                            subst hkn
                            have E6 : Hid (decide (D.gates = E.gates) = true) := Lib.hid (decide_eq_true (ext_of N6.out HS.out))
                            have d1 : decide ((D.gates.length : Int) < (D.gates.length : Int)) = false := by simp
                            clear hlt hk HS
                            go_wp2_with fail
                            clear d1 d2 x6 y6 ln6
                            have ln7 := HL.out.s
                            go_loopw [7] (fun i wr => ∃ k : Nat, k ≤ D.syms.length ∧ i = .int .i64 k ∧ Hid (∀ t, t < k → D.syms[t]? = E.syms[t]?) ∧ Hid (Bx P Q w D F E G wr)) (fun i _ => D.syms.length - (intOf i).toNat)
                            case atStart => exact ⟨0, Nat.zero_le _, by go_num, Lib.hid (fun t ht => by omega), BX⟩
                            case round =>
                              clear BX hX
                              obtain ⟨k, hk, rfl, HS, BX⟩ := hrel
                              obtain ⟨wo, rfl⟩ : ∃ wo : World, wo = wr := ⟨_, rfl⟩
                              have hX : w.heap.size + 1 < wo.heap.size := BX.out.y.lt
                              have d2 : 0 ≤ (k : Int) := by omega
                              have x7 : wo.cell? ⟨w.heap.size, 7, none⟩ = some (.slice F.as_ D.syms.length F.cs) := (BX.out.x.cell 7).1
                              have y7 : wo.cell? ⟨w.heap.size + 1, 7, none⟩ = some (.slice G.as_ E.syms.length G.cs) := (BX.out.y.cell 7).1
                              by_cases hlt : k < D.syms.length
                              · obtain ⟨t, ht⟩ : ∃ t, D.syms[k]? = some t := ⟨_, List.getElem?_eq_getElem hlt⟩
                                obtain ⟨r, hr⟩ : ∃ r, E.syms[k]? = some r := ⟨_, List.getElem?_eq_getElem (by rw [← N7.out]; exact hlt)⟩
                                obtain ⟨b, off, hba, hbl, e0, e1, e2⟩ := Rw.atS BX.out.i.s ht
                                obtain ⟨b', off', hba', hbl', g0, g1, g2⟩ := Rw.atS BX.out.j.s hr
                                have hD := Lib.hid ht
                                have hE := Lib.hid hr
                                clear ht hr
                                rw [hba] at x7
                                rw [hba', ← N7.out] at y7
                                clear hba hba'
                                obtain ⟨t0, t1, t2⟩ := t
                                obtain ⟨r0, r1, r2⟩ := r
                                simp only at e0 e1 e2 g0 g1 g2
                                have d1 : decide ((k : Int) < (D.syms.length : Int)) = true := by simp; omega
                                have d3 : (k : Int) < (D.syms.length : Int) := by omega
                                obtain ⟨bb, hbb⟩ : ∃ bb, bb = (t0 == r0 && (t1 == r1 && t2.toList == r2.toList)) := ⟨_, rfl⟩
                                have hne := fun w => sym_neq t0 t1 t2 r0 r1 r2 w
                                rw [← hbb] at hne
                                have HBB := Lib.hid hbb
                                have hgd : Try.prog.eqGuardType Try.prog.depth 59 = false := by kernel_rfl
                                clear hbb
                                cases bb with
                                | false =>
                                  have HNE : Hid (decide (D.syms = E.syms) = false) := Lib.hid (decide_eq_false (fun e => by
                                    have h1 := hD.out
                                    rw [e, hE.out] at h1
                                    have h2 := Option.some.inj h1
                                    simp only [Prod.mk.injEq] at h2
                                    obtain ⟨rfl, rfl, rfl⟩ := h2
                                    have h3 := HBB.out
                                    simp at h3))
                                  have HT := Lib.hid (ends_of (W := w) (w := wo) (b := false) (show sameB D E = false by unfold sameB; rw [HNE.out]; simp) BX.out.bel)
                                  go_wp2_with fail
                                  go_quiet (fail)
                                  go_wp2_with fail
                                  go_ret
                                  exact HT.out _ (below_drewN (Below.refl _ _) _)
                                | true =>
                                  have HS2 : Hid (∀ t, t < k + 1 → D.syms[t]? = E.syms[t]?) := Lib.hid (fun t ht => by
                                    by_cases e : t = k
                                    · subst e
                                      rw [hD.out, hE.out]
                                      have h := HBB.out.symm
                                      simp only [Bool.and_eq_true, beq_iff_eq] at h
                                      obtain ⟨rfl, rfl, h3⟩ := h; rw [bytes_eq h3]
                                    · exact HS.out t (by omega))
                                  have HBX := Lib.hid (fun q => BX.out.on (below_drewN (Below.refl _ _) q))
                                  go_wp2_with fail
                                  go_quiet (fail)
                                  go_wp2_with fail
                                  go_roundw
                                  case rel => exact ⟨k + 1, by omega, by go_num, HS2, Lib.hid (HBX.out _)⟩
                                  case measure => simp [intOf]; omega
                              · have hkn : k = D.syms.length := by omega
                                subst hkn
                                have E7 : Hid (decide (D.syms = E.syms) = true) := Lib.hid (decide_eq_true (ext_of N7.out HS.out))
                                have d1 : decide ((D.syms.length : Int) < (D.syms.length : Int)) = false := by simp
                                clear hlt hk HS
                                have HT := Lib.hid (ends_of (W := w) (w := wo) (b := true) (show sameB D E = true by unfold sameB; rw [Q0.out, Q8.out, Q1.out, Q3.out, Q4.out, Q5.out, E2.out, E6.out, E7.out]; rfl) BX.out.bel)
                                go_wp2_with fail
                                go_ret
                                exact HT.out _ (Below.refl _ _)
end Go.Proofs.Ytbpjflghkkkenaa.row

/- The walk of CircChecks, over what the landed code is to answer. (Printed by mkN15.py.) -/
namespace Go.Proofs.Ytbpjflghkkkenaa.row
open Go.RowKit
open Go.Proofs.Ytbpjflghkkkenaa.mem (own_on addr_add)
open Go.Proofs.Ytbpjflghkkkenaa.ints (below_drewN)

/-- what the landed functions answer (so far: what CircChecks looks at) -/
structure CircOk : Prop where
  check : ∀ (D : CD) (F : CF) (P : Nat → Prop) (w : World), InC P w D F → Fits D → Lens D → Calls Try.prog 8 #[cval D F] w (SaysI (checkF D) w)
  lives : ∀ w : World, Calls Try.prog 7 #[] w (SaysW true w)
theorem InC.any {P : Nat → Prop} {w : World} {D : CD} {F : CF} (h : InC P w D F) : InC (NewR w) w D F := h.weak (fun k hk hq => absurd hq (by show ¬ w.heap.size ≤ k; omega))
set_option maxRecDepth 100000 in
set_option maxHeartbeats 3200000 in
theorem checks11_any (K : CircOk) (D : CD) (F : CF) (w : World) (hc : InC (NewR w) w D F) (hf : Fits D) :
    Calls Try.prog 3 #[cval D F] w (SaysW true w) := by
  have HC := Lib.hid hc
  have HF := Lib.hid hf
  have HK := Lib.hid K.check
  have HV := Lib.hid K.lives
  clear hc hf K
  go_enter Try.func3, Try.ntmps3
  go_upto_region 1 with fail
  have X0 := blk_new w (ccells D F) 27
  have B0 : Below w.heap.size w (w.alloc (.cells (ccells D F) 27)) := (Below.refl _ _).alloc (Nat.le_refl _) _
  have I0 := HC.out.on B0
  clear HC
  generalize w.alloc (.cells (ccells D F) 27) = v at *
  have HX := Lib.hid X0
  have HB := Lib.hid B0
  have HI := Lib.hid I0
  have hX := X0.lt
  have c0 := (X0.cell 0).1
  have c1 := (X0.cell 1).1
  have c2 := (X0.cell 2).1
  have c3 := (X0.cell 3).1
  have c4 := (X0.cell 4).1
  have c5 := (X0.cell 5).1
  have c6 := (X0.cell 6).1
  have c7 := (X0.cell 7).1
  have c8 := (X0.cell 8).1
  simp at c0 c1 c2 c3 c4 c5 c6 c7 c8
  clear X0 B0 I0
  cases hfw : fewB D 40 with
  | false =>
    have HFW := Lib.hid hfw
    clear hfw
    go_wp2_with fail
    go_at_call 6; refine (few_of HFW.out F _).mono ?_; rintro e w1 ⟨rfl, b1⟩
    have HB1 := Lib.hid (HB.out.trans (b1.mono HB.out.size))
    clear b1
    go_wp2_with fail
    go_at_call 7; refine (HV.out _).mono ?_; rintro e w2 ⟨rfl, b2⟩
    have HT : Hid (SaysW true w (.returned (.bool true)) w2) := Lib.hid ⟨rfl, HB1.out.trans (b2.mono HB1.out.size)⟩
    clear b2
    go_wp2_with fail
    go_ret
    exact HT.out
  | true =>
    have HFW := Lib.hid hfw
    have HL := Lib.hid (few_lens hfw (by omega))
    clear hfw
    go_wp2_with fail
    go_at_call 6; refine (few_of HFW.out F _).mono ?_; rintro e w1 ⟨rfl, b1⟩
    have HB1 := Lib.hid (HB.out.trans (b1.mono HB.out.size))
    have HI1 := Lib.hid (HI.out.on b1)
    have HX1 := Lib.hid (HX.out.on b1)
    have hX1 := HX1.out.lt
    clear b1 c0 c1 c2 c3 c4 c5 c6 c7 c8
    have KC : Hid (∀ u, Below w1.heap.size w1 u → u.cell? ⟨w.heap.size, 0, none⟩ = some (.int .i64 D.max) ∧ u.cell? ⟨w.heap.size, 1, none⟩ = some (.slice F.ai D.ins.length F.ci) ∧ u.cell? ⟨w.heap.size, 2, none⟩ = some (.slice F.al D.lats.length F.cl) ∧ u.cell? ⟨w.heap.size, 3, none⟩ = some (.slice F.ao D.outs.length F.co) ∧ u.cell? ⟨w.heap.size, 4, none⟩ = some (.slice F.ab D.bads.length F.cb) ∧ u.cell? ⟨w.heap.size, 5, none⟩ = some (.slice F.ac D.cons.length F.cc) ∧ u.cell? ⟨w.heap.size, 6, none⟩ = some (.slice F.ag D.gates.length F.cg) ∧ u.cell? ⟨w.heap.size, 7, none⟩ = some (.slice F.as_ D.syms.length F.cs) ∧ u.cell? ⟨w.heap.size, 8, none⟩ = some (.string D.com)) := Lib.hid (fun u hu => ⟨((HX1.out.on hu).cell 0).1, ((HX1.out.on hu).cell 1).1, ((HX1.out.on hu).cell 2).1, ((HX1.out.on hu).cell 3).1, ((HX1.out.on hu).cell 4).1, ((HX1.out.on hu).cell 5).1, ((HX1.out.on hu).cell 6).1, ((HX1.out.on hu).cell 7).1, ((HX1.out.on hu).cell 8).1⟩)
    obtain ⟨z, hz⟩ : ∃ z, z = checkF D := ⟨_, rfl⟩
    have HZ := Lib.hid hz
    have hzz : (z == z) = true := by simp
    clear hz
    go_upto_region 3 with fail
    have hd1 : Below w1.heap.size w1 (w1.drewN 1) := below_drewN (Below.refl _ _) 1
    obtain ⟨k0, k1, k2, k3, k4, k5, k6, k7, k8⟩ := KC.out _ hd1
    go_region_held3 (fun w' => w'.cell? ⟨w.heap.size, 0, none⟩ = some (.int .i64 D.max) ∧ w'.cell? ⟨w.heap.size, 1, none⟩ = some (.slice F.ai D.ins.length F.ci) ∧ w'.cell? ⟨w.heap.size, 2, none⟩ = some (.slice F.al D.lats.length F.cl) ∧ w'.cell? ⟨w.heap.size, 3, none⟩ = some (.slice F.ao D.outs.length F.co) ∧ w'.cell? ⟨w.heap.size, 4, none⟩ = some (.slice F.ab D.bads.length F.cb) ∧ w'.cell? ⟨w.heap.size, 5, none⟩ = some (.slice F.ac D.cons.length F.cc) ∧ w'.cell? ⟨w.heap.size, 6, none⟩ = some (.slice F.ag D.gates.length F.cg) ∧ w'.cell? ⟨w.heap.size, 7, none⟩ = some (.slice F.as_ D.syms.length F.cs) ∧ w'.cell? ⟨w.heap.size, 8, none⟩ = some (.string D.com))
      (first | (exact KC.out _ hb5) | (exact KC.out _ hb4) | (exact KC.out _ hb3) | (exact KC.out _ hb2) | (exact KC.out _ hd1) | go_keep)
      (first | (go_at_call 9; refine (own_any D F _ (HI1.out.on hd1).any HL.out).mono ?_; rintro e w2 ⟨F2, rfl, ro, bo⟩; have hb2 := hd1.trans (bo.mono hd1.size)) | (go_at_call 8; refine (HK.out D F2 (fun _ => False) _ (ro.inC (fun k h => h.elim)) HF.out HL.out).mono ?_; rw [← HZ.out]; rintro e w3 ⟨rfl, b3⟩; have hb3 := hb2.trans (b3.mono hb2.size)) | (go_at_call 10; refine (refCheck_any D F _ _ (HI1.out.on hb3) HL.out HF.out).mono ?_; rw [← HZ.out]; rintro e w4 ⟨rfl, b4⟩; have hb4 := hb3.trans (b4.mono hb3.size)) | (go_at_call 7; refine (HV.out _).mono ?_; rintro e w5 ⟨rfl, b5⟩; have hb5 := hb4.trans (b5.mono hb4.size)))
    have HT : Hid (SaysW true w (.returned (.bool true)) w5) := Lib.hid ⟨rfl, HB1.out.trans (hb5.mono HB1.out.size)⟩
    clear k0 k1 k2 k3 k4 k5 k6 k7 k8 ro bo b3 b4 b5 hb2 hb3 hb4 hb5
    go_wp2_with fail
    go_ret
    exact HT.out
end Go.Proofs.Ytbpjflghkkkenaa.row

/- The document's literal by places. -/
namespace Go.Proofs.Ytbpjflghkkkenaa.row
open Go.RowKit
open Go.Proofs.Ytbpjflghkkkenaa.mem (own_on addr_add)
open Go.Proofs.Ytbpjflghkkkenaa.ints (Ints ints_cell below_drewN)

/-- a literal, by where the variables are -/
def litP (at_ : List Int) (l : Int) : Int := if l % 2 = 1 then at_.getD (l / 2).toNat 0 + 1 - 2 * (at_.getD (l / 2).toNat 0 % 2) else at_.getD (l / 2).toNat 0
set_option maxHeartbeats 1600000 in
theorem refLitP_any (v : Value) (zs : List Int) (l : Int) (w : World) (hv : Ints w v zs) (hl : 0 ≤ l ∧ l ≤ 33554433) (hi : (l / 2).toNat < zs.length) (hy : 0 ≤ zs.getD (l / 2).toNat 0 ∧ zs.getD (l / 2).toNat 0 ≤ 33554433) :
    Calls Try.prog 30 #[v, .int .i64 l] w (SaysI (litP zs l) w) := by
  obtain ⟨a, cap, rfl, l1, l2⟩ := ints_form hv
  unfold maxLen at l2
  obtain ⟨h, hh⟩ : ∃ h : Nat, h = (l / 2).toNat := ⟨_, rfl⟩
  have hlh : l / 2 = (h : Int) := by omega
  rw [← hh] at hi hy
  obtain ⟨b, off, rfl, hb, e1⟩ := ints_cell hv hi
  obtain ⟨y, hyy⟩ : ∃ y, y = zs.getD h 0 := ⟨_, rfl⟩
  rw [← hyy] at hy e1
  obtain ⟨n, hn⟩ : ∃ n, n = zs.length := ⟨_, rfl⟩
  rw [← hn] at hi l1 ⊢
  have HP : Hid (litP zs l = if l % 2 = 1 then y + 1 - 2 * (y % 2) else y) := Lib.hid (by unfold litP; rw [← hh, ← hyy])
  obtain ⟨y0, y1⟩ := hy
  obtain ⟨q0, q1⟩ := hl
  have d1 : (h : Int) < (n : Int) := by omega
  have d2 : 0 ≤ (h : Int) := by omega
  have d3 : (l / 2).toNat = h := hh.symm
  have d4 : 0 ≤ l / 2 := by omega
  have d5 : l / 2 < (n : Int) := by omega
  have hmod : y.tmod 2 = y % 2 := Int.tmod_eq_emod_of_nonneg y0
  have hw1 : IntKind.i64.wrap (y + 1) = y + 1 := IntWalk.i64_in _ (by omega)
  have hw2 : IntKind.i64.wrap (2 * (y % 2)) = 2 * (y % 2) := IntWalk.i64_in _ (by omega)
  have hw3 : IntKind.i64.wrap (y + 1 - 2 * (y % 2)) = y + 1 - 2 * (y % 2) := IntWalk.i64_in _ (by omega)
  have hld : l.tdiv 2 = l / 2 := Int.tdiv_eq_ediv_of_nonneg q0
  have HLH := Lib.hid hlh
  clear hh hyy hn hv hlh
  cases t1 : (l % 2 == 1) with
  | true =>
    have HT : Hid (∀ q, SaysI (litP zs l) w (.returned (.int .i64 (y + 1 - 2 * (y % 2)))) (w.drewN q)) := Lib.hid (fun q => by
      rw [HP.out, if_pos (by simpa using t1)]
      exact ⟨rfl, below_drewN (Below.refl _ _) q⟩)
    go_enter Try.func30, Try.ntmps30
    go_upto_region 2 with fail
    go_quiet (fail)
    go_wp2_with fail
    go_ret
    exact HT.out _
  | false =>
    have HT : Hid (SaysI (litP zs l) w (.returned (.int .i64 y)) w) := Lib.hid (by
      rw [HP.out, if_neg (by simpa using t1)]
      exact ⟨rfl, Below.refl _ _⟩)
    go_enter Try.func30, Try.ntmps30
    go_wp2_with fail
    go_ret
    exact HT.out
end Go.Proofs.Ytbpjflghkkkenaa.row
