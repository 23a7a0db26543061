/- SagaSteps, one of its six cases. No statement is proved here. -/
import Derived.Test.YtbppfndlfonoiaaLawA
import Derived.Test.YtbppfndlfonoiaaWalkF
import Derived.BigQuiet
import Derived.Deep.QuietTactic
set_option linter.unusedVariables false
set_option linter.unusedSimpArgs false
namespace Go.Proofs.Ytbppfndlfonoiaa.LawE1
open Go.RowKit Go.Proofs.Ytbppfndlfonoiaa.Kit Go.Proofs.Ytbppfndlfonoiaa.Stq Go.Proofs.Ytbppfndlfonoiaa.Pln Go.Proofs.Ytbppfndlfonoiaa.Sag Go.Proofs.Ytbppfndlfonoiaa.SagAt Go.Proofs.Ytbppfndlfonoiaa.WalkB Go.Proofs.Ytbppfndlfonoiaa.WalkC Go.Proofs.Ytbppfndlfonoiaa.WalkE Go.Proofs.Ytbppfndlfonoiaa.WalkF Go.Proofs.Ytbppfndlfonoiaa.NewS Go.Proofs.Ytbppfndlfonoiaa.Begun Go.Proofs.Ytbppfndlfonoiaa.Opens Go.Proofs.Ytbppfndlfonoiaa.Opn Go.Proofs.Ytbppfndlfonoiaa.Lit Go.Proofs.Ytbppfndlfonoiaa.LawA
open Go.Proofs.Ytbppfndlfonoiaa.State (Only cell_at free_at lt_at)

/-- A later world. -/
structure Later (w : World) where
  val : World
  prop : Below w.heap.size w val
instance (w : World) : Nonempty (Later w) := ⟨⟨w, Below.refl _ _⟩⟩
theorem rsnd_lit (HR : RSnd) {w : World} {A : Option Addr} (c : Nat) {l : List Sp} {st cu fa : Int} (h : At w A l) {b : Bool} (hb : Hid (sound ⟨l, st, cu, fa⟩ = b)) : Calls Try.prog 15 #[.agg #[.slice A l.length c, .int .i64 st, .int .i64 cu, .int .i64 fa]] w fun e w' => e = .returned (.bool b) ∧ Below w.heap.size w w' := HR w A c ⟨l, st, cu, fa⟩ h b hb.out
set_option maxRecDepth 100000 in
set_option maxHeartbeats 32000000 in
theorem steps_case (HR : RSnd) {A : Option Addr} {c : Nat} {l : List Sp} {st cu fa sp tr o1 o2 o3 a1 a2 a3 : Int} {tk ok bt ba : Bool} {w : World}
    (hin : In w ((w.alloc (.cells #[.slice A l.length c, .int .i64 st, .int .i64 cu, .int .i64 fa] 24)).alloc (.cells #[.int .i64 sp, .bool tk, .int .i64 tr, .bool ok] 26)) w.heap.size A c ⟨l, st, cu, fa⟩ ⟨sp, tk, tr, ok⟩)
    (HO : Hid (outc ⟨l, st, cu, fa⟩ sp tk tr ok = ⟨l, o1, o2, o3⟩)) (HT : Hid (takes ⟨l, st, cu, fa⟩ sp tk tr ok = bt)) (HAB : Hid (abort ⟨l, st, cu, fa⟩ = ⟨l, a1, a2, a3⟩)) (HAQ : Hid (aborts ⟨l, st, cu, fa⟩ = ba)) (HU : Hid (sound ⟨l, st, cu, fa⟩ = false)) (HV : Hid (ended ⟨l, st, cu, fa⟩ = true)) (HQ : Hid (wantC ⟨l, st, cu, fa⟩ = 0)) (HY : Hid (wantB ⟨l, st, cu, fa⟩ = false)) (HX : Hid (opn ⟨l, st, cu, fa⟩ = false)) (g1 : 3 ≤ st) (g2 : st ≤ 5) :
    Calls Try.prog 3 #[.agg #[.slice A l.length c, .int .i64 st, .int .i64 cu, .int .i64 fa], .agg #[.int .i64 sp, .bool tk, .int .i64 tr, .bool ok]] w fun e w' => e = .returned (.bool true) ∧ Below w.heap.size w w' := by
  obtain ⟨w0, hw0⟩ : ∃ W, (w.alloc (.cells #[.slice A l.length c, .int .i64 st, .int .i64 cu, .int .i64 fa] 24)).alloc (.cells #[.int .i64 sp, .bool tk, .int .i64 tr, .bool ok] 26) = W := ⟨_, rfl⟩
  rw [hw0] at hin
  have HW0 := Lib.hid hw0
  have HIN := Lib.hid hin
  clear hw0 hin
  go_enter Try.func3, Try.ntmps3
  go_wp2_with fail
  rw [HW0.out]
  go_wp2_with fail
  refine (begun_true _).mono ?_
  rintro e w1 ⟨rfl, hb1⟩
  have hi := HIN.out.below hb1
  have z0 := hi.sb.c0
  have z1 := hi.sb.c1
  have z2 := hi.sb.c2
  have z3 := hi.sb.c3
  have zlt := hi.sb.lt
  simp only at z0 z1 z2 z3
  have y0 := hi.cb.c0
  have y1 := hi.cb.c1
  have y2 := hi.cb.c2
  have y3 := hi.cb.c3
  have ylt := hi.cb.lt
  simp only at y0 y1 y2 y3
  have HI1 := Lib.hid hi
  clear hi hb1
  go_wp2_with fail
  with_reducible refine (outcome_lit c HI1.out.at_ sp tk tr ok HO HT).mono ?_
  rintro e w2 ⟨A2, k2, rfl, ha2, hf2, hb2⟩
  clear z0 z1 z2 z3 zlt y0 y1 y2 y3 ylt
  have hi := HI1.out.below hb2
  have z0 := hi.sb.c0
  have z1 := hi.sb.c1
  have z2 := hi.sb.c2
  have z3 := hi.sb.c3
  have zlt := hi.sb.lt
  simp only at z0 z1 z2 z3
  have y0 := hi.cb.c0
  have y1 := hi.cb.c1
  have y2 := hi.cb.c2
  have y3 := hi.cb.c3
  have ylt := hi.cb.lt
  simp only at y0 y1 y2 y3
  obtain ⟨w3, hw3⟩ : ∃ W, w2.alloc (.cells #[.slice A2 l.length k2, .int .i64 o1, .int .i64 o2, .int .i64 o3] 24) = W := ⟨_, rfl⟩
  obtain ⟨p1, hp1⟩ : ∃ p, w2.heap.size = p := ⟨_, rfl⟩
  have hs1 := sb_new (c := k2) (s := ⟨l, o1, o2, o3⟩) hb2 ha2
  have hi3 := hi.below (bo1 w2 (.cells #[.slice A2 l.length k2, .int .i64 o1, .int .i64 o2, .int .i64 o3] 24))
  simp only at hs1
  rw [hw3] at hs1 hi3
  rw [hp1] at hs1
  have HW3 := Lib.hid hw3
  have HP1 := Lib.hid hp1
  have HA3 := Lib.hid hs1
  have HI3 := Lib.hid hi3
  clear hi hw3 hp1 hs1 hi3 ha2 hf2 hb2
  go_wp2_with fail
  rw [HW3.out]
  try rw [HP1.out]
  clear z0 z1 z2 z3 zlt y0 y1 y2 y3 ylt
  with_reducible refine (routcome_any HR c HI3.out.at_ sp tk tr ok HO HT).mono ?_
  rintro e w4 ⟨rfl, hb4⟩
  have hi := HI3.out.below hb4
  have z0 := hi.sb.c0
  have z1 := hi.sb.c1
  have z2 := hi.sb.c2
  have z3 := hi.sb.c3
  have zlt := hi.sb.lt
  simp only at z0 z1 z2 z3
  have y0 := hi.cb.c0
  have y1 := hi.cb.c1
  have y2 := hi.cb.c2
  have y3 := hi.cb.c3
  have ylt := hi.cb.lt
  simp only at y0 y1 y2 y3
  obtain ⟨w5, hw5⟩ : ∃ W, w4.alloc (.cells #[.slice A l.length c, .int .i64 o1, .int .i64 o2, .int .i64 o3] 24) = W := ⟨_, rfl⟩
  obtain ⟨p2, hp2⟩ : ∃ p, w4.heap.size = p := ⟨_, rfl⟩
  have hs2 := sb_new (c := c) (s := ⟨l, o1, o2, o3⟩) (HA3.out.below hb4).bel hi.at_
  have hA5 := (HA3.out.below hb4).below (bo1 w4 (.cells #[.slice A l.length c, .int .i64 o1, .int .i64 o2, .int .i64 o3] 24))
  have hi5 := hi.below (bo1 w4 (.cells #[.slice A l.length c, .int .i64 o1, .int .i64 o2, .int .i64 o3] 24))
  simp only at hs2
  rw [hw5] at hs2 hi5 hA5
  rw [hp2] at hs2
  have HW5 := Lib.hid hw5
  have HP2 := Lib.hid hp2
  have HB5 := Lib.hid hs2
  have HA5 := Lib.hid hA5
  have HI5 := Lib.hid hi5
  clear hi hw5 hp2 hs2 hA5 hi5 hb4
  go_wp2_with fail
  rw [HW5.out]
  try rw [HP2.out]
  clear z0 z1 z2 z3 zlt y0 y1 y2 y3 ylt
  with_reducible refine (abort_lit c HI5.out.at_ HAB HAQ).mono ?_
  rintro e w6 ⟨A6, k6, rfl, ha6, hf6, hb6⟩
  have hi := HI5.out.below hb6
  have z0 := hi.sb.c0
  have z1 := hi.sb.c1
  have z2 := hi.sb.c2
  have z3 := hi.sb.c3
  have zlt := hi.sb.lt
  simp only at z0 z1 z2 z3
  have y0 := hi.cb.c0
  have y1 := hi.cb.c1
  have y2 := hi.cb.c2
  have y3 := hi.cb.c3
  have ylt := hi.cb.lt
  simp only at y0 y1 y2 y3
  obtain ⟨w7, hw7⟩ : ∃ W, w6.alloc (.cells #[.slice A6 l.length k6, .int .i64 a1, .int .i64 a2, .int .i64 a3] 24) = W := ⟨_, rfl⟩
  obtain ⟨p3, hp3⟩ : ∃ p, w6.heap.size = p := ⟨_, rfl⟩
  have hs3 := sb_new (c := k6) (s := ⟨l, a1, a2, a3⟩) (HA5.out.below hb6).bel ha6
  have hA7 := (HA5.out.below hb6).below (bo1 w6 (.cells #[.slice A6 l.length k6, .int .i64 a1, .int .i64 a2, .int .i64 a3] 24))
  have hB7 := (HB5.out.below hb6).below (bo1 w6 (.cells #[.slice A6 l.length k6, .int .i64 a1, .int .i64 a2, .int .i64 a3] 24))
  have hi7 := hi.below (bo1 w6 (.cells #[.slice A6 l.length k6, .int .i64 a1, .int .i64 a2, .int .i64 a3] 24))
  simp only at hs3
  rw [hw7] at hs3 hi7 hA7 hB7
  rw [hp3] at hs3
  have HW7 := Lib.hid hw7
  have HP3 := Lib.hid hp3
  have HC7 := Lib.hid hs3
  have HA7 := Lib.hid hA7
  have HB7 := Lib.hid hB7
  have HI7 := Lib.hid hi7
  clear hi hw7 hp3 hs3 hA7 hB7 hi7 ha6 hf6 hb6
  go_wp2_with fail
  rw [HW7.out]
  try rw [HP3.out]
  clear z0 z1 z2 z3 zlt y0 y1 y2 y3 ylt
  with_reducible refine (rabort_any HR c HI7.out.at_ HAB HAQ).mono ?_
  rintro e w8 ⟨rfl, hb8⟩
  have hi := HI7.out.below hb8
  have z0 := hi.sb.c0
  have z1 := hi.sb.c1
  have z2 := hi.sb.c2
  have z3 := hi.sb.c3
  have zlt := hi.sb.lt
  simp only at z0 z1 z2 z3
  have y0 := hi.cb.c0
  have y1 := hi.cb.c1
  have y2 := hi.cb.c2
  have y3 := hi.cb.c3
  have ylt := hi.cb.lt
  simp only at y0 y1 y2 y3
  obtain ⟨w9, hw9⟩ : ∃ W, w8.alloc (.cells #[.slice A l.length c, .int .i64 a1, .int .i64 a2, .int .i64 a3] 24) = W := ⟨_, rfl⟩
  obtain ⟨p4, hp4⟩ : ∃ p, w8.heap.size = p := ⟨_, rfl⟩
  have hs4 := sb_new (c := c) (s := ⟨l, a1, a2, a3⟩) (HA7.out.below hb8).bel hi.at_
  have hbx := bo1 w8 (.cells #[.slice A l.length c, .int .i64 a1, .int .i64 a2, .int .i64 a3] 24)
  have hA9 := (HA7.out.below hb8).below hbx
  have hB9 := (HB7.out.below hb8).below hbx
  have hC9 := (HC7.out.below hb8).below hbx
  have hi9 := hi.below hbx
  simp only at hs4
  rw [hw9] at hs4 hi9 hA9 hB9 hC9
  rw [hp4] at hs4
  have HW9 := Lib.hid hw9
  have HP4 := Lib.hid hp4
  have HD9 := Lib.hid hs4
  have HA9 := Lib.hid hA9
  have HB9 := Lib.hid hB9
  have HC9 := Lib.hid hC9
  have HI9 := Lib.hid hi9
  clear hi hw9 hp4 hs4 hA9 hB9 hC9 hi9 hbx hb8
  go_wp2_with fail
  rw [HW9.out]
  try rw [HP4.out]
  clear z0 z1 z2 z3 zlt y0 y1 y2 y3 ylt
  with_reducible refine (wants_lit c HI9.out.at_ HQ HY HX).mono ?_
  rintro e w10 ⟨rfl, hb10⟩
  have hi := HI9.out.below hb10
  have z0 := hi.sb.c0
  have z1 := hi.sb.c1
  have z2 := hi.sb.c2
  have z3 := hi.sb.c3
  have zlt := hi.sb.lt
  simp only at z0 z1 z2 z3
  have y0 := hi.cb.c0
  have y1 := hi.cb.c1
  have y2 := hi.cb.c2
  have y3 := hi.cb.c3
  have ylt := hi.cb.lt
  simp only at y0 y1 y2 y3
  have HI10 := Lib.hid hi
  have HA10 := Lib.hid (HA9.out.below hb10)
  have HB10 := Lib.hid (HB9.out.below hb10)
  have HC10 := Lib.hid (HC9.out.below hb10)
  have HD10 := Lib.hid (HD9.out.below hb10)
  clear hi hb10
  go_wp2_with fail
  clear z0 z1 z2 z3 zlt y0 y1 y2 y3 ylt
  with_reducible refine (rsnd_lit HR c HI10.out.at_ HU).mono ?_
  rintro e w11 ⟨rfl, hb11⟩
  have hi := HI10.out.below hb11
  have z0 := hi.sb.c0
  have z1 := hi.sb.c1
  have z2 := hi.sb.c2
  have z3 := hi.sb.c3
  have zlt := hi.sb.lt
  simp only at z0 z1 z2 z3
  have y0 := hi.cb.c0
  have y1 := hi.cb.c1
  have y2 := hi.cb.c2
  have y3 := hi.cb.c3
  have ylt := hi.cb.lt
  simp only at y0 y1 y2 y3
  have hA := HA10.out.below hb11
  have t0 := hA.box.c0
  have t1 := hA.box.c1
  have t2 := hA.box.c2
  have t3 := hA.box.c3
  have tlt := hA.box.lt
  simp only at t0 t1 t2 t3
  have hB := HB10.out.below hb11
  have u0 := hB.box.c0
  have u1 := hB.box.c1
  have u2 := hB.box.c2
  have u3 := hB.box.c3
  have ult := hB.box.lt
  simp only at u0 u1 u2 u3
  have HI11 := Lib.hid hi
  have HA11 := Lib.hid hA
  have HB11 := Lib.hid hB
  have HC11 := Lib.hid (HC10.out.below hb11)
  have HD11 := Lib.hid (HD10.out.below hb11)
  clear hi hA hB hb11
  have hC := HC11.out
  have r0 := hC.box.c0
  have r1 := hC.box.c1
  have r2 := hC.box.c2
  have r3 := hC.box.c3
  have rlt := hC.box.lt
  simp only at r0 r1 r2 r3
  have hD := HD11.out
  have s0 := hD.box.c0
  have s1 := hD.box.c1
  have s2 := hD.box.c2
  have s3 := hD.box.c3
  have slt := hD.box.lt
  simp only at s0 s1 s2 s3
  clear hC hD
  have hcell : ∀ W, Below w11.heap.size w11 W → (W.cell? ⟨w.heap.size, 0, none⟩ = some (.slice A l.length c) ∧ W.cell? ⟨w.heap.size, 1, none⟩ = some (.int .i64 st) ∧ W.cell? ⟨w.heap.size, 2, none⟩ = some (.int .i64 cu) ∧ W.cell? ⟨w.heap.size, 3, none⟩ = some (.int .i64 fa) ∧ W.cell? ⟨p1, 0, none⟩ = some (.slice A2 l.length k2) ∧ W.cell? ⟨p1, 1, none⟩ = some (.int .i64 o1) ∧ W.cell? ⟨p1, 2, none⟩ = some (.int .i64 o2) ∧ W.cell? ⟨p1, 3, none⟩ = some (.int .i64 o3) ∧ W.cell? ⟨p2, 0, none⟩ = some (.slice A l.length c) ∧ W.cell? ⟨p2, 1, none⟩ = some (.int .i64 o1) ∧ W.cell? ⟨p2, 2, none⟩ = some (.int .i64 o2) ∧ W.cell? ⟨p2, 3, none⟩ = some (.int .i64 o3) ∧ W.cell? ⟨p3, 0, none⟩ = some (.slice A6 l.length k6) ∧ W.cell? ⟨p3, 1, none⟩ = some (.int .i64 a1) ∧ W.cell? ⟨p3, 2, none⟩ = some (.int .i64 a2) ∧ W.cell? ⟨p3, 3, none⟩ = some (.int .i64 a3) ∧ W.cell? ⟨p4, 0, none⟩ = some (.slice A l.length c) ∧ W.cell? ⟨p4, 1, none⟩ = some (.int .i64 a1) ∧ W.cell? ⟨p4, 2, none⟩ = some (.int .i64 a2) ∧ W.cell? ⟨p4, 3, none⟩ = some (.int .i64 a3)) := fun W hb => by
    have h1 := HI11.out.below hb
    have h2 := HA11.out.below hb
    have h3 := HB11.out.below hb
    have h4 := HC11.out.below hb
    have h5 := HD11.out.below hb
    exact ⟨h1.sb.c0, h1.sb.c1, h1.sb.c2, h1.sb.c3, h2.box.c0, h2.box.c1, h2.box.c2, h2.box.c3, h3.box.c0, h3.box.c1, h3.box.c2, h3.box.c3, h4.box.c0, h4.box.c1, h4.box.c2, h4.box.c3, h5.box.c0, h5.box.c1, h5.box.c2, h5.box.c3⟩
  have HCELL := Lib.hid hcell
  clear hcell
  go_wp2_with fail
  simp only [List.append_eq, List.cons_append, List.nil_append]
  have m0 : ∀ V : Later w11, V.val.cell? ⟨w.heap.size, 0, none⟩ = some (.slice A l.length c) := fun V => (HCELL.out V.val V.prop).1
  have m1 : ∀ V : Later w11, V.val.cell? ⟨w.heap.size, 1, none⟩ = some (.int .i64 st) := fun V => (HCELL.out V.val V.prop).2.1
  have m2 : ∀ V : Later w11, V.val.cell? ⟨w.heap.size, 2, none⟩ = some (.int .i64 cu) := fun V => (HCELL.out V.val V.prop).2.2.1
  have m3 : ∀ V : Later w11, V.val.cell? ⟨w.heap.size, 3, none⟩ = some (.int .i64 fa) := fun V => (HCELL.out V.val V.prop).2.2.2.1
  have m4 : ∀ V : Later w11, V.val.cell? ⟨p1, 0, none⟩ = some (.slice A2 l.length k2) := fun V => (HCELL.out V.val V.prop).2.2.2.2.1
  have m5 : ∀ V : Later w11, V.val.cell? ⟨p1, 1, none⟩ = some (.int .i64 o1) := fun V => (HCELL.out V.val V.prop).2.2.2.2.2.1
  have m6 : ∀ V : Later w11, V.val.cell? ⟨p1, 2, none⟩ = some (.int .i64 o2) := fun V => (HCELL.out V.val V.prop).2.2.2.2.2.2.1
  have m7 : ∀ V : Later w11, V.val.cell? ⟨p1, 3, none⟩ = some (.int .i64 o3) := fun V => (HCELL.out V.val V.prop).2.2.2.2.2.2.2.1
  have m8 : ∀ V : Later w11, V.val.cell? ⟨p2, 0, none⟩ = some (.slice A l.length c) := fun V => (HCELL.out V.val V.prop).2.2.2.2.2.2.2.2.1
  have m9 : ∀ V : Later w11, V.val.cell? ⟨p2, 1, none⟩ = some (.int .i64 o1) := fun V => (HCELL.out V.val V.prop).2.2.2.2.2.2.2.2.2.1
  have m10 : ∀ V : Later w11, V.val.cell? ⟨p2, 2, none⟩ = some (.int .i64 o2) := fun V => (HCELL.out V.val V.prop).2.2.2.2.2.2.2.2.2.2.1
  have m11 : ∀ V : Later w11, V.val.cell? ⟨p2, 3, none⟩ = some (.int .i64 o3) := fun V => (HCELL.out V.val V.prop).2.2.2.2.2.2.2.2.2.2.2.1
  have m12 : ∀ V : Later w11, V.val.cell? ⟨p3, 0, none⟩ = some (.slice A6 l.length k6) := fun V => (HCELL.out V.val V.prop).2.2.2.2.2.2.2.2.2.2.2.2.1
  have m13 : ∀ V : Later w11, V.val.cell? ⟨p3, 1, none⟩ = some (.int .i64 a1) := fun V => (HCELL.out V.val V.prop).2.2.2.2.2.2.2.2.2.2.2.2.2.1
  have m14 : ∀ V : Later w11, V.val.cell? ⟨p3, 2, none⟩ = some (.int .i64 a2) := fun V => (HCELL.out V.val V.prop).2.2.2.2.2.2.2.2.2.2.2.2.2.2.1
  have m15 : ∀ V : Later w11, V.val.cell? ⟨p3, 3, none⟩ = some (.int .i64 a3) := fun V => (HCELL.out V.val V.prop).2.2.2.2.2.2.2.2.2.2.2.2.2.2.2.1
  have m16 : ∀ V : Later w11, V.val.cell? ⟨p4, 0, none⟩ = some (.slice A l.length c) := fun V => (HCELL.out V.val V.prop).2.2.2.2.2.2.2.2.2.2.2.2.2.2.2.2.1
  have m17 : ∀ V : Later w11, V.val.cell? ⟨p4, 1, none⟩ = some (.int .i64 a1) := fun V => (HCELL.out V.val V.prop).2.2.2.2.2.2.2.2.2.2.2.2.2.2.2.2.2.1
  have m18 : ∀ V : Later w11, V.val.cell? ⟨p4, 2, none⟩ = some (.int .i64 a2) := fun V => (HCELL.out V.val V.prop).2.2.2.2.2.2.2.2.2.2.2.2.2.2.2.2.2.2.1
  have m19 : ∀ V : Later w11, V.val.cell? ⟨p4, 3, none⟩ = some (.int .i64 a3) := fun V => (HCELL.out V.val V.prop).2.2.2.2.2.2.2.2.2.2.2.2.2.2.2.2.2.2.2
  refine wp_region_quiet (C := fun W' => ∃ V : Later w11, W' = V.val) (by kernel_rfl) (by kernel_rfl) ⟨⟨w11.drew, (Below.refl _ _).drew⟩, rfl⟩ ?_
  have e1 : (bt == bt) = true := by simp
  have e2 : (ba == ba) = true := by simp
  have e3 : (true == true) = true := rfl
  have e4 : (false == false) = true := rfl
  have e5 : (true == false) = false := rfl
  have e6 : (false == true) = false := rfl
  have e7 : ((0 : Int) == 0) = true := rfl
  have e8 : (cu == cu) = true := by simp
  have e9 : decide (3 ≤ st) = true := decide_eq_true g1
  have e10 : decide (st ≤ 5) = true := decide_eq_true g2
  have HMO : Hid True := trivial
  clear HMO
  show wpQuiet _ _ _ _ (_ :: _) _
  repeat (go_big_quiet_step (
    (rename_i V
     first
      | (go_at_call 16
         with_reducible refine ((rsame_lit (l := l) (l' := l) (st := o1) (cu := o2) (fa := o3) (st' := o1) (cu' := o2) (fa' := o3) (b := true) k2 c (HA11.out.below V.prop).at_ (HB11.out.below V.prop).at_ (by simp)).mono ?_)
         exact fun e w' h => ⟨h.1, ⟨w', V.prop.trans (h.2.mono V.prop.size)⟩, rfl⟩)
      | (go_at_call 16
         with_reducible refine ((rsame_lit (l := l) (l' := l) (st := a1) (cu := a2) (fa := a3) (st' := a1) (cu' := a2) (fa' := a3) (b := true) k6 c (HC11.out.below V.prop).at_ (HD11.out.below V.prop).at_ (by simp)).mono ?_)
         exact fun e w' h => ⟨h.1, ⟨w', V.prop.trans (h.2.mono V.prop.size)⟩, rfl⟩)
      | (go_at_call 17
         with_reducible refine ((sound_lit c (HI11.out.below V.prop).at_ HU).mono ?_)
         exact fun e w' h => ⟨h.1, ⟨w', V.prop.trans (h.2.mono V.prop.size)⟩, rfl⟩)
      | (go_at_call 15
         with_reducible refine ((rsnd_lit HR c (HI11.out.below V.prop).at_ HU).mono ?_)
         exact fun e w' h => ⟨h.1, ⟨w', V.prop.trans (h.2.mono V.prop.size)⟩, rfl⟩)
      | (go_at_call 18
         with_reducible refine ((ended_lit c A l.length V.val HV rfl).mono ?_)
         exact fun e w' h => ⟨h.1, ⟨w', V.prop.trans (h.2.mono V.prop.size)⟩, rfl⟩))))
  refine wpQuiet_nil ?_
  intro _ hw'
  obtain ⟨V, hw''⟩ := hw'
  subst hw''
  go_wp2
  go_ret
  exact ⟨rfl, HI11.out.bel.trans (V.prop.mono HI11.out.bel.size)⟩
end Go.Proofs.Ytbppfndlfonoiaa.LawE1
