/- What the document's Encode answers, walked. No statement is proved here. -/
import Derived.Test.YtkimeggojcgacaaWalkB
import Derived.Test.YtkimeggojcgacaaWalkD
set_option linter.unusedVariables false
set_option linter.unusedSimpArgs false
namespace Go.Proofs.Ytkimeggojcgacaa.WalkE
open Go.RowKit Go.Proofs.Ytkimeggojcgacaa.Kit Go.Proofs.Ytkimeggojcgacaa.Ltr Go.Proofs.Ytkimeggojcgacaa.Lmt Go.Proofs.Ytkimeggojcgacaa.Wr Go.Proofs.Ytkimeggojcgacaa.Wrk Go.Proofs.Ytkimeggojcgacaa.WalkA Go.Proofs.Ytkimeggojcgacaa.WalkB Go.Proofs.Ytkimeggojcgacaa.WalkD
open Go.Proofs.Ytkimeggojcgacaa.Num (num)
open Go.Proofs.Ytkimeggojcgacaa.State (cell_at free_at lt_at)
open Go.Proofs.Ytkimeggojcgacaa.PckWalkB (text bit)
open Go.Proofs.Ytkimeggojcgacaa.PckWalkH (str str_size str_append)

theorem rnum_hid (x : Nat) (w : World) (hx : x < 18446744073709551616) {F : ByteArray} (hF : Hid (str (num x) = F)) :
    Calls Try.prog 20 #[.int .u64 (x : Int)] w fun e w' => e = .returned (.string F) ∧ Below w.heap.size w w' :=
  (PckWalkH.num_any x w hx).mono fun _ _ k => ⟨by rw [← hF.out]; exact k.1, k.2⟩
theorem rtext_hid (s : ByteArray) (w : World) (hs : s.size ≤ 140737488355000) {F : ByteArray} (hF : Hid (str (text s) = F)) :
    Calls Try.prog 21 #[.string s] w fun e w' => e = .returned (.string F) ∧ Below w.heap.size w w' :=
  (PckWalkH.text_any s w hs).mono fun _ _ k => ⟨by rw [← hF.out]; exact k.1, k.2⟩

set_option maxRecDepth 100000 in
set_option maxHeartbeats 1000000 in
/-- A letter that may not be. -/
theorem renc_no {w : World} {x : Lt} (h : LAt w x) (m : ¬ May x.h x.es) : Calls Try.prog 10 #[ltV x] w (Enc w ByteArray.empty 1) := by
  obtain ⟨w1, HW, ten, h1, hb1, hlt⟩ := box_of h
  have hm := rmay_any h1 false (by simp [m])
  obtain ⟨⟨k, f, t, tm, ix, pv, cm, ok, d⟩, A, n, c, es⟩ := x
  have c0 := ten.c0
  have c1 := ten.c1
  have c2 := ten.c2
  have c3 := ten.c3
  have c4 := ten.c4
  have c5 := ten.c5
  have c6 := ten.c6
  have c7 := ten.c7
  have c8 := ten.c8
  have c9 := ten.c9
  rw [Nat.zero_add] at c1 c2 c3 c4 c5 c6 c7 c8 c9
  simp only [ltCs] at HW c0 c1 c2 c3 c4 c5 c6 c7 c8 c9
  unfold ltV at hm ⊢
  simp only at hm ⊢
  clear h h1 m ten
  go_enter Try.func10, Try.ntmps10
  go_wp2_with fail
  rw [HW.out]
  go_wp2_with fail
  refine hm.mono ?_
  rintro e w2 ⟨rfl, hb2⟩
  go_wp2
  go_ret2
  exact ⟨rfl, hb1.trans (hb2.mono hb1.size)⟩

/-- Numbers' bytes one behind the other. -/
def numsB (l : List Nat) : List UInt8 := l.flatMap num
theorem numsB_take {l : List Nat} {j : Nat} (hj : j < l.length) : numsB (l.take (j + 1)) = numsB (l.take j) ++ num l[j] := by
  unfold numsB
  rw [List.take_succ_eq_append_getElem hj, List.flatMap_append, List.flatMap_cons, List.flatMap_nil, List.append_nil]
theorem numsB_le (l : List Nat) (h : ∀ x ∈ l, x < 18446744073709551616) : (numsB l).length ≤ l.length * 9 := by
  induction l with
  | nil => simp [numsB]
  | cons x l ih =>
    have h1 := ih fun y hy => h y (List.mem_cons_of_mem _ hy)
    have h2 := num9 (h x List.mem_cons_self)
    have e0 : numsB (x :: l) = num x ++ numsB l := by simp [numsB]
    rw [e0, List.length_append, List.length_cons]
    omega
def ucells (l : List Nat) : List Value := l.map fun (x : Nat) => .int .u64 (x : Int)
/-- The numbers' slice, its cells as they were laid. -/
theorem ucell {w : World} {g j : Nat} {l : List Nat} {t : TypeId} (h : w.heap[g]? = some (.cells (ucells l).toArray t (0, 0))) (hj : j < l.length) : w.cell? ⟨g, j, none⟩ = some (.int .u64 ((l[j] : Nat) : Int)) := by
  rw [cell_at h]
  simp [ucells, hj]

set_option maxRecDepth 100000 in
set_option maxHeartbeats 8000000 in
/-- A letter that may be. -/
theorem renc_yes {w : World} {x : Lt} (h : LAt w x) (m : May x.h x.es) : Calls Try.prog 10 #[ltV x] w (Enc w (str (lmtB x.h x.es)) 0) := by
  obtain ⟨w1, HW, ten, h1, hb1, hlt1⟩ := box_of h
  have hm := rmay_any h1 true (by simp [m])
  have hre1 := h1.re
  have hlen := h1.len
  have hin := h.hin
  have ein := h.ein
  have lim := m.1
  obtain ⟨⟨k, f, t, tm, ix, pv, cm, ok, d⟩, A, n, c, es⟩ := x
  have eL : lmtB ⟨k, f, t, tm, ix, pv, cm, ok, d⟩ es = numsB [k.toNat, f.toNat, t.toNat, tm.toNat, ix.toNat, pv.toNat, cm.toNat, bit ok, es.length] ++ entsB es ++ text d := by simp [lmtB, headB, numsB, List.append_assoc]
  have c0 := ten.c0
  have c1 := ten.c1
  have c2 := ten.c2
  have c3 := ten.c3
  have c4 := ten.c4
  have c5 := ten.c5
  have c6 := ten.c6
  have c7 := ten.c7
  have c8 := ten.c8
  have c9 := ten.c9
  rw [Nat.zero_add] at c1 c2 c3 c4 c5 c6 c7 c8 c9
  obtain ⟨tm0, tm1, ix0, ix1, pv0, pv1, cm0, cm1⟩ := hin
  obtain ⟨k0, k1, f0, f1, t0, t1, hn, hd, he⟩ := lim
  simp only at *
  obtain ⟨k, rfl⟩ := Int.eq_ofNat_of_zero_le k0
  obtain ⟨f, rfl⟩ := Int.eq_ofNat_of_zero_le f0
  obtain ⟨t, rfl⟩ := Int.eq_ofNat_of_zero_le t0
  obtain ⟨tm, rfl⟩ := Int.eq_ofNat_of_zero_le tm0
  obtain ⟨ix, rfl⟩ := Int.eq_ofNat_of_zero_le ix0
  obtain ⟨pv, rfl⟩ := Int.eq_ofNat_of_zero_le pv0
  obtain ⟨cm, rfl⟩ := Int.eq_ofNat_of_zero_le cm0
  have b1 : k < 18446744073709551616 := by omega
  have b2 : f < 18446744073709551616 := by omega
  have b3 : t < 18446744073709551616 := by omega
  have b4 : tm < 18446744073709551616 := by omega
  have b5 : ix < 18446744073709551616 := by omega
  have b6 : pv < 18446744073709551616 := by omega
  have b7 : cm < 18446744073709551616 := by omega
  have b9 : n < 18446744073709551616 := by omega
  have z1 := wrap_u k b1
  have z2 := wrap_u f b2
  have z3 := wrap_u t b3
  have z9 := wrap_u n b9
  have hn8 : n ≤ 8 := by rw [← hlen]; exact hn
  rw [hlen] at eL
  simp only [Int.toNat_natCast] at eL
  obtain ⟨L, hL⟩ : ∃ L, [k, f, t, tm, ix, pv, cm, bit ok, n] = L := ⟨_, rfl⟩
  have hL9 : L.length = 9 := by rw [← hL]; rfl
  have hLb : ∀ x ∈ L, x < 18446744073709551616 := by
    intro x hx
    rw [← hL] at hx
    simp only [List.mem_cons, List.not_mem_nil, or_false] at hx
    rcases hx with rfl | rfl | rfl | rfl | rfl | rfl | rfl | rfl | rfl
    all_goals first | assumption | exact bit_lt ok
  rw [hL] at eL
  have HS : Hid (str (numsB L ++ entsB es ++ text d) = str (lmtB ⟨(k : Int), (f : Int), (t : Int), (tm : Int), (ix : Int), (pv : Int), (cm : Int), ok, d⟩ es)) := by rw [eL]; exact rfl
  obtain ⟨S, hS⟩ : ∃ S, str (lmtB ⟨(k : Int), (f : Int), (t : Int), (tm : Int), (ix : Int), (pv : Int), (cm : Int), ok, d⟩ es) = S := ⟨_, rfl⟩
  rw [hS] at HS ⊢
  have HLEN := Lib.hid hlen
  have HE : Hid (∀ e ∈ es, EIn e ∧ EMay e) := fun e h => ⟨ein e h, he e h⟩
  simp only [ltCs] at HW
  unfold ltV at hm ⊢
  simp only at hm ⊢
  have HL := Lib.hid hL
  have HL9 := Lib.hid hL9
  have HLB := Lib.hid hLb
  have hbit : (if ok = true then (1 : Int) else 0) = ((bit ok : Nat) : Int) := by cases ok <;> rfl
  clear h h1 m ten hS eL hlen he ein hL hL9 hLb
  go_enter Try.func10, Try.ntmps10
  go_wp2_with fail
  rw [HW.out]
  go_wp2_with fail
  refine hm.mono ?_
  rintro e w2 ⟨rfl, hb2⟩
  have hlt : w.heap.size < w2.heap.size := Nat.lt_of_lt_of_le hlt1 hb2.size
  replace c0 := (hb2.cell (p := ⟨w.heap.size, 0, none⟩) hlt1).trans c0
  replace c1 := (hb2.cell (p := ⟨w.heap.size, 1, none⟩) hlt1).trans c1
  replace c2 := (hb2.cell (p := ⟨w.heap.size, 2, none⟩) hlt1).trans c2
  replace c3 := (hb2.cell (p := ⟨w.heap.size, 3, none⟩) hlt1).trans c3
  replace c4 := (hb2.cell (p := ⟨w.heap.size, 4, none⟩) hlt1).trans c4
  replace c5 := (hb2.cell (p := ⟨w.heap.size, 5, none⟩) hlt1).trans c5
  replace c6 := (hb2.cell (p := ⟨w.heap.size, 6, none⟩) hlt1).trans c6
  replace c7 := (hb2.cell (p := ⟨w.heap.size, 7, none⟩) hlt1).trans c7
  replace c8 := (hb2.cell (p := ⟨w.heap.size, 8, none⟩) hlt1).trans c8
  replace c9 := (hb2.cell (p := ⟨w.heap.size, 9, none⟩) hlt1).trans c9
  have hre2 : RE w2 w2.heap.size A n es := (Kit.Reads.below hre1 hb2).more hb2.size
  have hB2 : Below w.heap.size w w2 := hb1.trans (hb2.mono hb1.size)
  clear hre1 hb1 hb2 hlt1 hm
  have hrow := heap_alloc_new w2 (.cells (ucells L).toArray 22)
  have hbr : Below w2.heap.size w2 (w2.alloc (.cells (ucells L).toArray 22)) := (Below.refl _ _).alloc (Nat.le_refl _) _
  obtain ⟨w3, hw3⟩ : ∃ w3, w2.alloc (.cells (ucells L).toArray 22) = w3 := ⟨_, rfl⟩
  rw [hw3] at hrow hbr
  have HW3 : Hid (w2.alloc (.cells #[.int .u64 (k : Int), .int .u64 (f : Int), .int .u64 (t : Int), .int .u64 (tm : Int), .int .u64 (ix : Int), .int .u64 (pv : Int), .int .u64 (cm : Int), .int .u64 ((bit ok : Nat) : Int), .int .u64 (n : Int)] 22) = w3) := by
    show _ = _
    rw [← hw3, ← HL.out]
    rfl
  clear hw3
  have hlg : w2.heap.size < w3.heap.size := lt_at hrow
  have HB3 : Hid (Below w.heap.size w w3) := hB2.trans (hbr.mono hB2.size)
  have hre3 : RE w3 w3.heap.size A n es := (Kit.Reads.below hre2 hbr).more hbr.size
  have d8 := (hbr.cell (p := ⟨w.heap.size, 8, none⟩) hlt).trans c8
  have d9 := (hbr.cell (p := ⟨w.heap.size, 9, none⟩) hlt).trans c9
  have hlt3 : w.heap.size < w3.heap.size := Nat.lt_of_lt_of_le hlt hbr.size
  have HROW := Lib.hid hrow
  clear hbr hre2 hB2 hrow
  cases ok
  all_goals
    simp only [bit, if_true, if_false, Bool.false_eq_true, Int.natCast_zero, Int.natCast_one] at HW3
    clear hbit
    go_wp2_with fail
    rw [HW3.out]
    go_loopw [4, 7] (fun s x wr => ∃ j : Nat, j ≤ 9 ∧ x = .int .i64 (j : Int) ∧ s = .string (str (numsB (L.take j))) ∧ Below w3.heap.size w3 wr) (fun _ x _ => 9 - (intOf x).toNat)
    case atStart => exact ⟨0, by omega, rfl, rfl, Below.refl _ _⟩
    case round =>
      obtain ⟨j, hj, rfl, rfl, hbel⟩ := hrel
      clear c0 c1 c2 c3 c4 c5 c6 c7 c8 c9
      by_cases hjn : j < 9
      · have HJ := Lib.hid hjn
        have hjL : j < L.length := by rw [HL9.out]; exact hjn
        have hcell := (hbel.cell (p := ⟨w2.heap.size, j, none⟩) hlg).trans (ucell HROW.out hjL)
        have hyb := HLB.out _ (List.getElem_mem hjL)
        have htake := numsB_take hjL
        obtain ⟨y, hy⟩ : ∃ y, L[j] = y := ⟨_, rfl⟩
        rw [hy] at hcell hyb htake
        have hle := numsB_le (L.take j) fun x hx => HLB.out x (List.mem_of_mem_take hx)
        have hlen : (L.take j).length ≤ 9 := by rw [List.length_take]; omega
        obtain ⟨P, hP⟩ : ∃ P, str (numsB (L.take j)) = P := ⟨_, rfl⟩
        obtain ⟨F, hF⟩ : ∃ F, str (num y) = F := ⟨_, rfl⟩
        have hPs : P.size ≤ 81 := by rw [← hP, str_size]; omega
        have hFs : F.size ≤ 9 := by rw [← hF, str_size]; exact num9 hyb
        have hsum : P.size + F.size ≤ 9223372036854775807 := by omega
        have HN : Hid (P ++ F = str (numsB (L.take (j + 1)))) := by
          have e1 : P ++ F = str (numsB (L.take (j + 1))) := by rw [← hP, ← hF, str_append, htake]
          exact e1
        have HF := Lib.hid hF
        have hltg := Nat.lt_of_lt_of_le hlg hbel.size
        rw [hP]
        have hj9 : (j : Int) < 9 := by omega
        have hj0 : (0 : Int) ≤ (j : Int) := by omega
        clear hP hF htake hy hle hlen hjL hj hjn
        go_wp2_with fail
        with_reducible refine (rnum_hid y _ hyb HF).mono ?_
        rintro e w4 ⟨rfl, hb4⟩
        have HBN := Lib.hid (hbel.trans (hb4.mono hbel.size))
        clear hb4 hbel hcell
        go_wp2
        go_roundw
        case rel => exact ⟨j + 1, HJ.out, by go_num, by rw [HN.out], HBN.out⟩
        case measure => have := HJ.out; simp [intOf]; omega
      · obtain rfl : j = 9 := by omega
        have hall : L.take 9 = L := List.take_of_length_le (by rw [HL9.out]; omega)
        rw [hall]
        have hNs := numsB_le L HLB.out
        rw [HL9.out] at hNs
        have HB5 := Lib.hid hbel
        have d8' := (hbel.cell (p := ⟨w.heap.size, 8, none⟩) hlt3).trans d8
        have hltr := Nat.lt_of_lt_of_le hlt3 hbel.size
        clear hall hjn
        simp only [show ((9 : Nat) : Int) = 9 from rfl]
        go_wp2_with fail
        go_loopw [4, 8] (fun s x wq => ∃ j : Nat, j ≤ n ∧ x = .int .i64 (j : Int) ∧ s = .string (str (numsB L ++ entsB (es.take j))) ∧ Below w3.heap.size w3 wq) (fun _ x _ => n - (intOf x).toNat)
        case atStart => exact ⟨0, by omega, rfl, by simp [entsB], hbel⟩
        case round =>
          obtain ⟨j, hj, rfl, rfl, hbel2⟩ := hrel
          have d8'' := (hbel2.cell (p := ⟨w.heap.size, 8, none⟩) hlt3).trans d8
          have hltq := Nat.lt_of_lt_of_le hlt3 hbel2.size
          clear d8' hltr hbel
          by_cases hjn : j < n
          · have HJ := Lib.hid hjn
            obtain ⟨bk, o, e, rfl, hbl, hej, hfour⟩ := RE.at_ hre3 hjn
            have hfr := Four.below hfour hbel2 hbl
            have y0 := hfr.c0
            have y1 := hfr.c1
            have y2 := hfr.c2
            have y3 := hfr.c3
            obtain ⟨hei, hem⟩ := HE.out e (List.mem_of_getElem? hej)
            have htake := entsB_take hej
            have hlj := entsB_le (es.take j) fun e he => HE.out e (List.mem_of_mem_take he)
            have hlt' : (es.take j).length ≤ 8 := by rw [List.length_take]; omega
            obtain ⟨m, ix', kd, dt⟩ := e
            obtain ⟨p0, p1, p2, p3⟩ := hei
            obtain ⟨g0, g1, g2⟩ := hem
            simp only at y0 y1 y2 y3 p0 p1 p2 p3 g0 g1 g2
            obtain ⟨m, rfl⟩ := Int.eq_ofNat_of_zero_le p0
            obtain ⟨ix', rfl⟩ := Int.eq_ofNat_of_zero_le p2
            obtain ⟨kd, rfl⟩ := Int.eq_ofNat_of_zero_le g0
            have v1 : m < 18446744073709551616 := by omega
            have v2 : ix' < 18446744073709551616 := by omega
            have v3 : kd < 18446744073709551616 := by omega
            have z3' := wrap_u kd v3
            obtain ⟨P, hP⟩ : ∃ P, str (numsB L ++ entsB (es.take j)) = P := ⟨_, rfl⟩
            obtain ⟨F1, hF1⟩ : ∃ F, str (num m) = F := ⟨_, rfl⟩
            obtain ⟨F2, hF2⟩ : ∃ F, str (num ix') = F := ⟨_, rfl⟩
            obtain ⟨F3, hF3⟩ : ∃ F, str (num kd) = F := ⟨_, rfl⟩
            obtain ⟨F4, hF4⟩ : ∃ F, str (text dt) = F := ⟨_, rfl⟩
            have hPs : P.size ≤ 600000 := by rw [← hP, str_size, List.length_append]; omega
            have hs1 : F1.size ≤ 9 := by rw [← hF1, str_size]; exact num9 v1
            have hs2 : F2.size ≤ 9 := by rw [← hF2, str_size]; exact num9 v2
            have hs3 : F3.size ≤ 9 := by rw [← hF3, str_size]; exact num9 v3
            have hs4 : F4.size ≤ 65545 := by rw [← hF4, str_size]; have := text_length dt (by omega); omega
            have u1 : ¬ 9223372036854775807 < F1.size + F2.size := by omega
            have u2 : ¬ 9223372036854775807 < F1.size + F2.size + F3.size := by omega
            have u3 : ¬ 9223372036854775807 < F1.size + F2.size + F3.size + F4.size := by omega
            have u4 : ¬ 9223372036854775807 < P.size + (F1.size + F2.size + F3.size + F4.size) := by omega
            have x1 : F1.size + F2.size ≤ 9223372036854775807 := by omega
            have x2 : F1.size + F2.size + F3.size ≤ 9223372036854775807 := by omega
            have x3 : F1.size + F2.size + F3.size + F4.size ≤ 9223372036854775807 := by omega
            have x4 : P.size + (F1.size + F2.size + F3.size + F4.size) ≤ 9223372036854775807 := by omega
            have HN : Hid (P ++ (F1 ++ F2 ++ F3 ++ F4) = str (numsB L ++ entsB (es.take (j + 1)))) := by
              have e1 : P ++ (F1 ++ F2 ++ F3 ++ F4) = str (numsB L ++ entsB (es.take (j + 1))) := by
                rw [← hP, ← hF1, ← hF2, ← hF3, ← hF4, str_append, str_append, str_append, str_append, htake]
                simp [entB, List.append_assoc]
              exact e1
            have HF1 := Lib.hid hF1
            have HF2 := Lib.hid hF2
            have HF3 := Lib.hid hF3
            have HF4 := Lib.hid hF4
            have hall : Below w3.heap.size w3 (wr.alloc (.cells #[.int .u64 (m : Int), .int .u64 (ix' : Int), .int .i64 (kd : Int), .string dt] 47)) := hbel2.alloc hbel2.size _
            have hnew := heap_alloc_new wr (.cells #[.int .u64 (m : Int), .int .u64 (ix' : Int), .int .i64 (kd : Int), .string dt] 47)
            obtain ⟨w4, hw4⟩ : ∃ w4, wr.alloc (.cells #[.int .u64 (m : Int), .int .u64 (ix' : Int), .int .i64 (kd : Int), .string dt] 47) = w4 := ⟨_, rfl⟩
            rw [hw4] at hall hnew
            have HW4 := Lib.hid hw4
            have r0 : w4.cell? ⟨wr.heap.size, 0, none⟩ = some (.int .u64 (m : Int)) := by rw [cell_at hnew]; rfl
            have r1 : w4.cell? ⟨wr.heap.size, 1, none⟩ = some (.int .u64 (ix' : Int)) := by rw [cell_at hnew]; rfl
            have r2 : w4.cell? ⟨wr.heap.size, 2, none⟩ = some (.int .i64 (kd : Int)) := by rw [cell_at hnew]; rfl
            have r3 : w4.cell? ⟨wr.heap.size, 3, none⟩ = some (.string dt) := by rw [cell_at hnew]; rfl
            have hlw : wr.heap.size < w4.heap.size := lt_at hnew
            have HA := Lib.hid hall
            rw [hP]
            clear hfr hfour hej htake hlj hlt' hP hF1 hF2 hF3 hF4 hbel2 hall hnew hw4 d8
            go_wp2_with fail
            rw [HW4.out]
            go_region_held3 (fun w' => w'.cell? ⟨wr.heap.size, 0, none⟩ = some (.int .u64 (m : Int)) ∧ w'.cell? ⟨wr.heap.size, 1, none⟩ = some (.int .u64 (ix' : Int)) ∧ w'.cell? ⟨wr.heap.size, 2, none⟩ = some (.int .i64 (kd : Int)) ∧ w'.cell? ⟨wr.heap.size, 3, none⟩ = some (.string dt))
              (first
                | exact ⟨r0, r1, r2, r3⟩
                | exact ⟨(hbD.cell (p := ⟨wr.heap.size, 0, none⟩) hlw).trans r0, (hbD.cell (p := ⟨wr.heap.size, 1, none⟩) hlw).trans r1, (hbD.cell (p := ⟨wr.heap.size, 2, none⟩) hlw).trans r2, (hbD.cell (p := ⟨wr.heap.size, 3, none⟩) hlw).trans r3⟩
                | exact ⟨(hbC.cell (p := ⟨wr.heap.size, 0, none⟩) hlw).trans r0, (hbC.cell (p := ⟨wr.heap.size, 1, none⟩) hlw).trans r1, (hbC.cell (p := ⟨wr.heap.size, 2, none⟩) hlw).trans r2, (hbC.cell (p := ⟨wr.heap.size, 3, none⟩) hlw).trans r3⟩
                | exact ⟨(hbB.cell (p := ⟨wr.heap.size, 0, none⟩) hlw).trans r0, (hbB.cell (p := ⟨wr.heap.size, 1, none⟩) hlw).trans r1, (hbB.cell (p := ⟨wr.heap.size, 2, none⟩) hlw).trans r2, (hbB.cell (p := ⟨wr.heap.size, 3, none⟩) hlw).trans r3⟩
                | exact ⟨(hbA.cell (p := ⟨wr.heap.size, 0, none⟩) hlw).trans r0, (hbA.cell (p := ⟨wr.heap.size, 1, none⟩) hlw).trans r1, (hbA.cell (p := ⟨wr.heap.size, 2, none⟩) hlw).trans r2, (hbA.cell (p := ⟨wr.heap.size, 3, none⟩) hlw).trans r3⟩)
              (first
                | (go_at_call 20
                   (with_reducible refine (rnum_hid m _ v1 HF1).mono ?_)
                   rintro e wA ⟨rfl, hA⟩
                   have hbA : Below w4.heap.size w4 wA := ((Below.refl _ w4).drew).trans hA)
                | (go_at_call 20
                   (with_reducible refine (rnum_hid ix' _ v2 HF2).mono ?_)
                   rintro e wB ⟨rfl, hB⟩
                   have hbB : Below w4.heap.size w4 wB := hbA.trans (hB.mono hbA.size))
                | (go_at_call 20
                   (with_reducible refine (rnum_hid kd _ v3 HF3).mono ?_)
                   rintro e wC ⟨rfl, hC⟩
                   have hbC : Below w4.heap.size w4 wC := hbB.trans (hC.mono hbB.size))
                | (go_at_call 21
                   (with_reducible refine (rtext_hid dt _ (by omega) HF4).mono ?_)
                   rintro e wD ⟨rfl, hD⟩
                   have hbD : Below w4.heap.size w4 wD := hbC.trans (hD.mono hbC.size)))
            have HBN : Hid (Below w3.heap.size w3 wD) := HA.out.trans (hbD.mono HA.out.size)
            clear hbD hbC hbB hbA r0 r1 r2 r3
            go_wp2
            go_roundw
            case rel => exact ⟨j + 1, HJ.out, by go_num, by rw [HN.out], HBN.out⟩
            case measure => have := HJ.out; simp [intOf]; omega
          · obtain rfl : j = n := by omega
            have hall : es.take j = es := List.take_of_length_le (by rw [HLEN.out]; exact Nat.le_refl _)
            rw [hall]
            have hlj := entsB_le es HE.out
            rw [HLEN.out] at hlj
            have y9 := (hbel2.cell (p := ⟨w.heap.size, 9, none⟩) hlt3).trans d9
            obtain ⟨P, hP⟩ : ∃ P, str (numsB L ++ entsB es) = P := ⟨_, rfl⟩
            obtain ⟨F, hF⟩ : ∃ F, str (text d) = F := ⟨_, rfl⟩
            have hPs : P.size ≤ 600000 := by rw [← hP, str_size, List.length_append]; omega
            have hFs : F.size ≤ 65545 := by rw [← hF, str_size]; have := text_length d (by omega); omega
            have hsum : P.size + F.size ≤ 9223372036854775807 := by omega
            have HN : Hid (P ++ F = S) := by
              have e1 : P ++ F = S := by rw [← hP, ← hF, str_append]; exact HS.out
              exact e1
            have HF := Lib.hid hF
            have HB6 : Hid (Below w.heap.size w wr) := HB3.out.trans (hbel2.mono HB3.out.size)
            rw [hP]
            clear hall hlj hP hF hbel2 hjn
            go_wp2_with fail
            with_reducible refine (rtext_hid d _ (by omega) HF).mono ?_
            rintro e w4 ⟨rfl, hb4⟩
            go_wp2
            go_ret2
            exact ⟨by rw [← HN.out]; rfl, HB6.out.trans (hb4.mono HB6.out.size)⟩
end Go.Proofs.Ytkimeggojcgacaa.WalkE
