/- What the program's Encode answers, walked. No statement is proved here. -/
import Derived.Test.YtkimeggojcgacaaWalkA
import Derived.Test.YtkimeggojcgacaaWrk
import Derived.BigRegion
set_option linter.unusedVariables false
set_option linter.unusedSimpArgs false
namespace Go.Proofs.Ytkimeggojcgacaa.WalkB
open Go.RowKit Go.Proofs.Ytkimeggojcgacaa.Kit Go.Proofs.Ytkimeggojcgacaa.Ltr Go.Proofs.Ytkimeggojcgacaa.Lmt Go.Proofs.Ytkimeggojcgacaa.Wr Go.Proofs.Ytkimeggojcgacaa.Wrk Go.Proofs.Ytkimeggojcgacaa.WalkA
open Go.Proofs.Ytkimeggojcgacaa.Num (num)
open Go.Proofs.Ytkimeggojcgacaa.State (cell_at free_at lt_at)
open Go.Proofs.Ytkimeggojcgacaa.PckWalkB (text bit)
open Go.Proofs.Ytkimeggojcgacaa.PckWalkH (str)

/-- What Encode answers. -/
def Enc (w : World) (s : ByteArray) (z : Int) (e : Ending) (w' : World) : Prop := e = .returned (.tuple #[.string s, .int .i64 z]) ∧ Below w.heap.size w w'
/-- The box of a letter that came in by value. -/
theorem box_of {w : World} {x : Lt} (h : LAt w x) : ∃ w1, Hid (w.alloc (.cells (ltCs x).toArray 25) = w1) ∧ Ten w1 w.heap.size 0 x ∧ LAt w1 x ∧ Below w.heap.size w w1 ∧ w.heap.size < w1.heap.size := by
  have hbo : Below w.heap.size w (w.alloc (.cells (ltCs x).toArray 25)) := (Below.refl _ _).alloc (Nat.le_refl _) _
  exact ⟨_, rfl, ten_new w x, h.below hbo, hbo, by simp⟩
theorem wrap_u (n : Nat) (h : n < 18446744073709551616) : IntKind.u64.wrap (n : Int) = (n : Int) := by rw [IntKind.wrap_u64]; omega

set_option maxRecDepth 100000 in
set_option maxHeartbeats 1000000 in
/-- A letter that may not be. -/
theorem enc_no {w : World} {x : Lt} (h : LAt w x) (m : ¬ May x.h x.es) : Calls Try.prog 9 #[ltV x] w (Enc w ByteArray.empty 1) := by
  obtain ⟨w1, HW, ten, h1, hb1, hlt⟩ := box_of h
  have hm := may_any h1 false (by simp [m])
  obtain ⟨⟨k, f, t, tm, ix, pv, cm, ok, d⟩, A, n, c, es⟩ := x
  have c0 := ten.c0
  have c1 := ten.c1
  have c2 := ten.c2
  have c3 := ten.c3
  have c4 := ten.c4
  have c5 := ten.c5
  have c6 := ten.c6
  have c7 := ten.c7
  have c8 := ten.c8
  have c9 := ten.c9
  rw [Nat.zero_add] at c1 c2 c3 c4 c5 c6 c7 c8 c9
  simp only [ltCs] at HW c0 c1 c2 c3 c4 c5 c6 c7 c8 c9
  unfold ltV at hm ⊢
  simp only at hm ⊢
  clear h h1 m ten
  go_enter Try.func9, Try.ntmps9
  go_wp2_with fail
  rw [HW.out]
  go_wp2_with fail
  refine hm.mono ?_
  rintro e w2 ⟨rfl, hb2⟩
  go_wp2
  go_ret2
  exact ⟨rfl, hb1.trans (hb2.mono hb1.size)⟩

set_option maxRecDepth 100000 in
set_option maxHeartbeats 8000000 in
/-- A letter that may be. -/
theorem enc_yes {w : World} {x : Lt} (h : LAt w x) (m : May x.h x.es) : Calls Try.prog 9 #[ltV x] w (Enc w (str (lmtB x.h x.es)) 0) := by
  obtain ⟨w1, HW, ten, h1, hb1, hlt1⟩ := box_of h
  have hm := may_any h1 true (by simp [m])
  have hre1 := h1.re
  have hlen := h1.len
  have hin := h.hin
  have ein := h.ein
  have lim := m.1
  obtain ⟨⟨k, f, t, tm, ix, pv, cm, ok, d⟩, A, n, c, es⟩ := x
  have hhead := headB_le hin ⟨lim.k0, lim.k1, lim.f0, lim.f1, lim.t0, lim.t1⟩ lim.n
  have eL : lmtB ⟨k, f, t, tm, ix, pv, cm, ok, d⟩ es = headB ⟨k, f, t, tm, ix, pv, cm, ok, d⟩ es.length ++ entsB es ++ text d := by simp [lmtB, List.append_assoc]
  have c0 := ten.c0
  have c1 := ten.c1
  have c2 := ten.c2
  have c3 := ten.c3
  have c4 := ten.c4
  have c5 := ten.c5
  have c6 := ten.c6
  have c7 := ten.c7
  have c8 := ten.c8
  have c9 := ten.c9
  rw [Nat.zero_add] at c1 c2 c3 c4 c5 c6 c7 c8 c9
  obtain ⟨tm0, tm1, ix0, ix1, pv0, pv1, cm0, cm1⟩ := hin
  obtain ⟨k0, k1, f0, f1, t0, t1, hn, hd, he⟩ := lim
  simp only at *
  obtain ⟨k, rfl⟩ := Int.eq_ofNat_of_zero_le k0
  obtain ⟨f, rfl⟩ := Int.eq_ofNat_of_zero_le f0
  obtain ⟨t, rfl⟩ := Int.eq_ofNat_of_zero_le t0
  obtain ⟨tm, rfl⟩ := Int.eq_ofNat_of_zero_le tm0
  obtain ⟨ix, rfl⟩ := Int.eq_ofNat_of_zero_le ix0
  obtain ⟨pv, rfl⟩ := Int.eq_ofNat_of_zero_le pv0
  obtain ⟨cm, rfl⟩ := Int.eq_ofNat_of_zero_le cm0
  have b1 : k < 18446744073709551616 := by omega
  have b2 : f < 18446744073709551616 := by omega
  have b3 : t < 18446744073709551616 := by omega
  have b4 : tm < 18446744073709551616 := by omega
  have b5 : ix < 18446744073709551616 := by omega
  have b6 : pv < 18446744073709551616 := by omega
  have b7 : cm < 18446744073709551616 := by omega
  have b9 : n < 18446744073709551616 := by omega
  have z1 := wrap_u k b1
  have z2 := wrap_u f b2
  have z3 := wrap_u t b3
  have z9 := wrap_u n b9
  obtain ⟨l1, e1⟩ : ∃ l, [] ++ num k = l := ⟨_, rfl⟩
  obtain ⟨l2, e2⟩ : ∃ l, l1 ++ num f = l := ⟨_, rfl⟩
  obtain ⟨l3, e3⟩ : ∃ l, l2 ++ num t = l := ⟨_, rfl⟩
  obtain ⟨l4, e4⟩ : ∃ l, l3 ++ num tm = l := ⟨_, rfl⟩
  obtain ⟨l5, e5⟩ : ∃ l, l4 ++ num ix = l := ⟨_, rfl⟩
  obtain ⟨l6, e6⟩ : ∃ l, l5 ++ num pv = l := ⟨_, rfl⟩
  obtain ⟨l7, e7⟩ : ∃ l, l6 ++ num cm = l := ⟨_, rfl⟩
  obtain ⟨l8, e8⟩ : ∃ l, l7 ++ num (bit ok) = l := ⟨_, rfl⟩
  obtain ⟨l9, e9⟩ : ∃ l, l8 ++ num n = l := ⟨_, rfl⟩
  have hL9 : headB ⟨(k : Int), (f : Int), (t : Int), (tm : Int), (ix : Int), (pv : Int), (cm : Int), ok, d⟩ n = l9 := by
    rw [← e9, ← e8, ← e7, ← e6, ← e5, ← e4, ← e3, ← e2, ← e1]
    simp [headB, List.append_assoc]
  rw [hlen, hL9] at hhead eL
  have s9 : l9.length ≤ 81 := hhead
  have hpre : l1.length ≤ 81 ∧ l2.length ≤ 81 ∧ l3.length ≤ 81 ∧ l4.length ≤ 81 ∧ l5.length ≤ 81 ∧ l6.length ≤ 81 ∧ l7.length ≤ 81 ∧ l8.length ≤ 81 := by
    have g9 := congrArg List.length e9
    have g8 := congrArg List.length e8
    have g7 := congrArg List.length e7
    have g6 := congrArg List.length e6
    have g5 := congrArg List.length e5
    have g4 := congrArg List.length e4
    have g3 := congrArg List.length e3
    have g2 := congrArg List.length e2
    simp only [List.length_append] at g2 g3 g4 g5 g6 g7 g8 g9
    omega
  obtain ⟨s1, s2, s3, s4, s5, s6, s7, s8⟩ := hpre
  have HS : Hid (str (l9 ++ entsB es ++ text d) = str (lmtB ⟨(k : Int), (f : Int), (t : Int), (tm : Int), (ix : Int), (pv : Int), (cm : Int), ok, d⟩ es)) := by rw [eL]; exact rfl
  obtain ⟨S, hS⟩ : ∃ S, str (lmtB ⟨(k : Int), (f : Int), (t : Int), (tm : Int), (ix : Int), (pv : Int), (cm : Int), ok, d⟩ es) = S := ⟨_, rfl⟩
  rw [hS] at HS ⊢
  have E1 := Lib.hid e1
  have E2 := Lib.hid e2
  have E3 := Lib.hid e3
  have E4 := Lib.hid e4
  have E5 := Lib.hid e5
  have E6 := Lib.hid e6
  have E7 := Lib.hid e7
  have E8 := Lib.hid e8
  have E9 := Lib.hid e9
  have HLEN := Lib.hid hlen
  have hn8 : n ≤ 8 := by rw [← hlen]; exact hn
  have HE : Hid (∀ e ∈ es, EIn e ∧ EMay e) := fun e h => ⟨ein e h, he e h⟩
  simp only [ltCs] at HW
  unfold ltV at hm ⊢
  simp only at hm ⊢
  clear h h1 m ten e1 e2 e3 e4 e5 e6 e7 e8 e9 hS eL hL9 hhead hlen he ein
  go_enter Try.func9, Try.ntmps9
  go_wp2_with fail
  rw [HW.out]
  go_wp2_with fail
  refine hm.mono ?_
  rintro e w2 ⟨rfl, hb2⟩
  have hlt : w.heap.size < w2.heap.size := Nat.lt_of_lt_of_le hlt1 hb2.size
  replace c0 := (hb2.cell (p := ⟨w.heap.size, 0, none⟩) hlt1).trans c0
  replace c1 := (hb2.cell (p := ⟨w.heap.size, 1, none⟩) hlt1).trans c1
  replace c2 := (hb2.cell (p := ⟨w.heap.size, 2, none⟩) hlt1).trans c2
  replace c3 := (hb2.cell (p := ⟨w.heap.size, 3, none⟩) hlt1).trans c3
  replace c4 := (hb2.cell (p := ⟨w.heap.size, 4, none⟩) hlt1).trans c4
  replace c5 := (hb2.cell (p := ⟨w.heap.size, 5, none⟩) hlt1).trans c5
  replace c6 := (hb2.cell (p := ⟨w.heap.size, 6, none⟩) hlt1).trans c6
  replace c7 := (hb2.cell (p := ⟨w.heap.size, 7, none⟩) hlt1).trans c7
  replace c8 := (hb2.cell (p := ⟨w.heap.size, 8, none⟩) hlt1).trans c8
  replace c9 := (hb2.cell (p := ⟨w.heap.size, 9, none⟩) hlt1).trans c9
  have hre2 : RE w2 w2.heap.size A n es := (Kit.Reads.below hre1 hb2).more hb2.size
  have hB2 : Below w.heap.size w w2 := hb1.trans (hb2.mono hb1.size)
  clear hre1 hb1 hb2 hlt1 hm
  have hWO : Wrt w2 (w2.alloc (.cells #[.slice none 0 0] 43)).drew w2.heap.size [] := (new_wrt w2).drew
  go_wp2_with fail
  go_region_held3 (fun w' => w'.cell? ⟨w.heap.size, 0, none⟩ = some (.int .i64 (k : Int)) ∧ w'.cell? ⟨w.heap.size, 1, none⟩ = some (.int .i64 (f : Int)) ∧ w'.cell? ⟨w.heap.size, 2, none⟩ = some (.int .i64 (t : Int)))
    (first
      | exact ⟨c0, c1, c2⟩
      | exact ⟨hWO.cell c0 hlt, hWO.cell c1 hlt, hWO.cell c2 hlt⟩
      | exact ⟨hWC.cell c0 hlt, hWC.cell c1 hlt, hWC.cell c2 hlt⟩
      | exact ⟨hWB.cell c0 hlt, hWB.cell c1 hlt, hWB.cell c2 hlt⟩
      | exact ⟨hWA.cell c0 hlt, hWA.cell c1 hlt, hWA.cell c2 hlt⟩)
    (first
      | (go_at_call 15
         (with_reducible refine (wrt_num k hWO b1 (by decide) E1).mono ?_)
         rintro e wA ⟨rfl, hWA⟩)
      | (go_at_call 15
         (with_reducible refine (wrt_num f hWA b2 (by omega) E2).mono ?_)
         rintro e wB ⟨rfl, hWB⟩)
      | (go_at_call 15
         (with_reducible refine (wrt_num t hWB b3 (by omega) E3).mono ?_)
         rintro e wC ⟨rfl, hWC⟩))
  clear hWA hWB hWO wA wB
  have hWD : Wrt w2 wC.drew w2.heap.size l3 := hWC.drew
  have d3 := hWC.cell c3 hlt
  have d4 := hWC.cell c4 hlt
  have d5 := hWC.cell c5 hlt
  have d6 := hWC.cell c6 hlt
  have d7 := hWC.cell c7 hlt
  clear hWC
  go_wp2_with fail
  go_region_held3 (fun w' => w'.cell? ⟨w.heap.size, 3, none⟩ = some (.int .u64 (tm : Int)) ∧ w'.cell? ⟨w.heap.size, 4, none⟩ = some (.int .u64 (ix : Int)) ∧ w'.cell? ⟨w.heap.size, 5, none⟩ = some (.int .u64 (pv : Int)) ∧ w'.cell? ⟨w.heap.size, 6, none⟩ = some (.int .u64 (cm : Int)) ∧ w'.cell? ⟨w.heap.size, 7, none⟩ = some (.bool ok))
    (first
      | exact ⟨d3, d4, d5, d6, d7⟩
      | exact ⟨hWI.cell c3 hlt, hWI.cell c4 hlt, hWI.cell c5 hlt, hWI.cell c6 hlt, hWI.cell c7 hlt⟩
      | exact ⟨hWH.cell c3 hlt, hWH.cell c4 hlt, hWH.cell c5 hlt, hWH.cell c6 hlt, hWH.cell c7 hlt⟩
      | exact ⟨hWG.cell c3 hlt, hWG.cell c4 hlt, hWG.cell c5 hlt, hWG.cell c6 hlt, hWG.cell c7 hlt⟩
      | exact ⟨hWF.cell c3 hlt, hWF.cell c4 hlt, hWF.cell c5 hlt, hWF.cell c6 hlt, hWF.cell c7 hlt⟩
      | exact ⟨hWE.cell c3 hlt, hWE.cell c4 hlt, hWE.cell c5 hlt, hWE.cell c6 hlt, hWE.cell c7 hlt⟩)
    (first
      | (go_at_call 15
         (with_reducible refine (wrt_num tm hWD b4 (by omega) E4).mono ?_)
         rintro e wE ⟨rfl, hWE⟩)
      | (go_at_call 15
         (with_reducible refine (wrt_num ix hWE b5 (by omega) E5).mono ?_)
         rintro e wF ⟨rfl, hWF⟩)
      | (go_at_call 15
         (with_reducible refine (wrt_num pv hWF b6 (by omega) E6).mono ?_)
         rintro e wG ⟨rfl, hWG⟩)
      | (go_at_call 15
         (with_reducible refine (wrt_num cm hWG b7 (by omega) E7).mono ?_)
         rintro e wH ⟨rfl, hWH⟩)
      | (go_at_call 16
         (with_reducible refine (wrt_bool ok hWH (by omega) E8).mono ?_)
         rintro e wI ⟨rfl, hWI⟩))
  clear hWD hWE hWF hWG hWH wE wF wG wH d3 d4 d5 d6 d7
  have d8 := hWI.cell c8 hlt
  go_wp2_with fail
  with_reducible refine (wrt_num n hWI b9 (by omega) E9).mono ?_
  rintro e w3 ⟨rfl, hW3⟩
  have d8 := hW3.cell c8 hlt
  clear hWI
  go_wp2
  go_loopw [48] (fun x wr => ∃ j : Nat, j ≤ n ∧ x = .int .i64 (j : Int) ∧ Wrt w2 wr w2.heap.size (l9 ++ entsB (es.take j))) (fun x _ => n - (intOf x).toNat)
  case atStart => exact ⟨0, by omega, rfl, by simpa [entsB] using hW3⟩
  case round =>
    obtain ⟨j, hj, rfl, hW⟩ := hrel
    by_cases hjn : j < n
    · have HJ := Lib.hid hjn
      obtain ⟨bk, o, e, rfl, hbl, hej, hfour⟩ := RE.at_ hre2 hjn
      have hfr := Four.below hfour hW.bel hbl
      have y0 := hfr.c0
      have y1 := hfr.c1
      have y2 := hfr.c2
      have y3 := hfr.c3
      obtain ⟨hei, hem⟩ := HE.out e (List.mem_of_getElem? hej)
      have htake := entsB_take hej
      have hlj := entsB_le (es.take j) fun e he => HE.out e (List.mem_of_mem_take he)
      have hlt' : (es.take j).length ≤ 8 := by rw [List.length_take]; omega
      obtain ⟨m, ix', kd, dt⟩ := e
      obtain ⟨p0, p1, p2, p3⟩ := hei
      obtain ⟨g0, g1, g2⟩ := hem
      simp only at *
      obtain ⟨m, rfl⟩ := Int.eq_ofNat_of_zero_le p0
      obtain ⟨ix', rfl⟩ := Int.eq_ofNat_of_zero_le p2
      obtain ⟨kd, rfl⟩ := Int.eq_ofNat_of_zero_le g0
      have v1 : m < 18446744073709551616 := by omega
      have v2 : ix' < 18446744073709551616 := by omega
      have v3 : kd < 18446744073709551616 := by omega
      have z3 := wrap_u kd v3
      obtain ⟨a0, x0⟩ : ∃ a, l9 ++ entsB (es.take j) = a := ⟨_, rfl⟩
      have q0 : a0.length ≤ 600000 := by rw [← x0, List.length_append]; omega
      obtain ⟨a1, x1⟩ : ∃ a, a0 ++ num m = a := ⟨_, rfl⟩
      obtain ⟨a2, x2⟩ : ∃ a, a1 ++ num ix' = a := ⟨_, rfl⟩
      obtain ⟨a3, x3⟩ : ∃ a, a2 ++ num kd = a := ⟨_, rfl⟩
      obtain ⟨a4, x4⟩ : ∃ a, a3 ++ text dt = a := ⟨_, rfl⟩
      have q1 : a1.length ≤ 600009 := by rw [← x1, List.length_append]; have := num9 v1; omega
      have q2 : a2.length ≤ 600018 := by rw [← x2, List.length_append]; have := num9 v2; omega
      have q3 : a3.length ≤ 600027 := by rw [← x3, List.length_append]; have := num9 v3; omega
      have hA4 : Hid (l9 ++ entsB (es.take (j + 1)) = a4) := by
        have e1 : l9 ++ entsB (es.take (j + 1)) = a4 := by
          rw [htake, ← List.append_assoc, x0, ← x4, ← x3, ← x2, ← x1]
          simp [entB, List.append_assoc]
        exact e1
      rw [x0] at hW
      have X1 := Lib.hid x1
      have X2 := Lib.hid x2
      have X3 := Lib.hid x3
      have X4 := Lib.hid x4
      have hK := (wrk_new hW (.cells #[.int .u64 (m : Int), .int .u64 (ix' : Int), .int .i64 (kd : Int), .string dt] 47)).drew
      have r0 := hK.cell 0
      have r1 := hK.cell 1
      have r2 := hK.cell 2
      have r3 := hK.cell 3
      clear hfr hfour hej htake hlj x0 x1 x2 x3 x4 hW3 d8 hlt'
      go_wp2_with fail
      go_region_held3 (fun w' => w'.cell? ⟨wr.heap.size, 0, none⟩ = some (.int .u64 (m : Int)) ∧ w'.cell? ⟨wr.heap.size, 1, none⟩ = some (.int .u64 (ix' : Int)) ∧ w'.cell? ⟨wr.heap.size, 2, none⟩ = some (.int .i64 (kd : Int)) ∧ w'.cell? ⟨wr.heap.size, 3, none⟩ = some (.string dt))
        (first
          | exact ⟨r0, r1, r2, r3⟩
          | exact ⟨hWD.cell 0, hWD.cell 1, hWD.cell 2, hWD.cell 3⟩
          | exact ⟨hWC.cell 0, hWC.cell 1, hWC.cell 2, hWC.cell 3⟩
          | exact ⟨hWB.cell 0, hWB.cell 1, hWB.cell 2, hWB.cell 3⟩
          | exact ⟨hWA.cell 0, hWA.cell 1, hWA.cell 2, hWA.cell 3⟩)
        (first
          | (go_at_call 15
             (with_reducible refine (wrk_num m hK v1 (by omega) X1).mono ?_)
             rintro e wA ⟨rfl, hWA⟩)
          | (go_at_call 15
             (with_reducible refine (wrk_num ix' hWA v2 (by omega) X2).mono ?_)
             rintro e wB ⟨rfl, hWB⟩)
          | (go_at_call 15
             (with_reducible refine (wrk_num kd hWB v3 (by omega) X3).mono ?_)
             rintro e wC ⟨rfl, hWC⟩)
          | (go_at_call 17
             (with_reducible refine (wrk_text dt hWC (by omega) X4).mono ?_)
             rintro e wD ⟨rfl, hWD⟩))
      have hWE := hWD.wrt
      rw [← hA4.out] at hWE
      clear hWD hWC hWB hWA hK r0 r1 r2 r3
      go_wp2
      go_roundw
      case rel => exact ⟨j + 1, HJ.out, by go_num, hWE⟩
      case measure => have := HJ.out; simp [intOf]; omega
    · obtain rfl : j = n := by omega
      have hall : es.take j = es := by rw [List.take_of_length_le (by rw [HLEN.out]; exact Nat.le_refl _)]
      rw [hall] at hW
      have y9 := hW.cell c9 hlt
      obtain ⟨a0, x0⟩ : ∃ a, l9 ++ entsB es = a := ⟨_, rfl⟩
      have hlj := entsB_le es HE.out
      rw [HLEN.out] at hlj
      have q0 : a0.length ≤ 600000 := by rw [← x0, List.length_append]; omega
      obtain ⟨a1, x1⟩ : ∃ a, a0 ++ text d = a := ⟨_, rfl⟩
      have hS := HS.out
      rw [x0, x1] at hS
      rw [x0] at hW
      have X1 := Lib.hid x1
      have XS := Lib.hid hS
      clear x0 x1 hS hW3 hall hlj d8
      go_wp2_with fail
      with_reducible refine (wrt_text d hW (by omega) X1).mono ?_
      rintro e w4 ⟨rfl, hW4⟩
      go_wp2_with fail
      with_reducible refine (wrt_bytes hW4 XS).mono ?_
      rintro e w5 ⟨rfl, hW5⟩
      go_wp2
      go_ret2
      exact ⟨rfl, hB2.trans (hW5.bel.mono hB2.size)⟩
end Go.Proofs.Ytkimeggojcgacaa.WalkB
