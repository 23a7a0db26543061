/- The walk of the statement that what is encoded is decoded as it was. -/
import Derived.Test.YtkimeggojcgacaaBegun
import Derived.Test.YtkimeggojcgacaaSame
set_option linter.unusedVariables false
set_option linter.unusedSimpArgs false
namespace Go.Proofs.Ytkimeggojcgacaa.LawC
open Go.RowKit Go.Proofs.Ytkimeggojcgacaa.Kit Go.Proofs.Ytkimeggojcgacaa.Ltr Go.Proofs.Ytkimeggojcgacaa.Lmt Go.Proofs.Ytkimeggojcgacaa.Wr Go.Proofs.Ytkimeggojcgacaa.Dk Go.Proofs.Ytkimeggojcgacaa.WalkA Go.Proofs.Ytkimeggojcgacaa.WalkB Go.Proofs.Ytkimeggojcgacaa.WalkC Go.Proofs.Ytkimeggojcgacaa.Begun
open Go.Proofs.Ytkimeggojcgacaa.State (cell_at free_at lt_at)
open Go.Proofs.Ytkimeggojcgacaa.PckWalkH (str str_size str_list str_back str_append)
open Go.Proofs.Ytkimeggojcgacaa.Same
open Go.Proofs.Ytkimeggojcgacaa.Wrk (lmtB_le)

theorem cut_to (s : ByteArray) (f : Nat) (h : f ≤ s.size) (w : World) : (Instr.slice 9 (.string s) none (some (.int .i64 (f : Int))) none).run Try.prog w = .ok (.string (s.extract 0 f)) w := by
  have h' : (f : Int) ≤ s.size := by omega
  go_simp
set_option maxRecDepth 100000 in
set_option maxHeartbeats 4000000 in
/-- A letter that may not be. -/
theorem back_no (x : Lt) (w : World) (h : LAt w x) (m : ¬ May x.h x.es) : Calls Try.prog 5 #[ltV x] w fun e w' => e = .returned (.bool true) ∧ Below w.heap.size w w' := by
  obtain ⟨w1, HW, ten, h1, hb1, hlt1⟩ := box_of h
  have hE' := fun w' (hb : Below w1.heap.size w1 w') => enc_no (h1.below hb) m
  have he : (ByteArray.empty.toList == []) = true := by rw [Lib.toList_data]; decide
  obtain ⟨⟨k, f, t, tm, ix, pv, cm, ok, d⟩, A, n, c, es⟩ := x
  have c0 := ten.c0
  have c1 := ten.c1
  have c2 := ten.c2
  have c3 := ten.c3
  have c4 := ten.c4
  have c5 := ten.c5
  have c6 := ten.c6
  have c7 := ten.c7
  have c8 := ten.c8
  have c9 := ten.c9
  rw [Nat.zero_add] at c1 c2 c3 c4 c5 c6 c7 c8 c9
  simp only [ltCs] at HW c0 c1 c2 c3 c4 c5 c6 c7 c8 c9
  unfold ltV at hE' ⊢
  simp only at hE' ⊢
  have HE := Lib.hid hE'
  clear h h1 ten hE' m
  go_enter Try.func5, Try.ntmps5
  go_wp2_with fail
  rw [HW.out]
  with_reducible refine (begun_true w1).mono ?_
  rintro e w2 ⟨rfl, hb2⟩
  have d0 := (hb2.cell (p := ⟨w.heap.size, 0, none⟩) hlt1).trans c0
  have d1 := (hb2.cell (p := ⟨w.heap.size, 1, none⟩) hlt1).trans c1
  have d2 := (hb2.cell (p := ⟨w.heap.size, 2, none⟩) hlt1).trans c2
  have d3 := (hb2.cell (p := ⟨w.heap.size, 3, none⟩) hlt1).trans c3
  have d4 := (hb2.cell (p := ⟨w.heap.size, 4, none⟩) hlt1).trans c4
  have d5 := (hb2.cell (p := ⟨w.heap.size, 5, none⟩) hlt1).trans c5
  have d6 := (hb2.cell (p := ⟨w.heap.size, 6, none⟩) hlt1).trans c6
  have d7 := (hb2.cell (p := ⟨w.heap.size, 7, none⟩) hlt1).trans c7
  have d8 := (hb2.cell (p := ⟨w.heap.size, 8, none⟩) hlt1).trans c8
  have d9 := (hb2.cell (p := ⟨w.heap.size, 9, none⟩) hlt1).trans c9
  have hlt2 := Nat.lt_of_lt_of_le hlt1 hb2.size
  clear c0 c1 c2 c3 c4 c5 c6 c7 c8 c9
  go_wp2_with fail
  with_reducible refine (HE.out _ hb2).mono ?_
  rintro e w3 ⟨rfl, hb3⟩
  go_wp2
  go_ret
  exact ⟨rfl, (hb1.trans (hb2.mono hb1.size)).trans (hb3.mono (hb1.trans (hb2.mono hb1.size)).size)⟩

set_option maxRecDepth 100000 in
set_option maxHeartbeats 8000000 in
/-- A letter that may be. -/
theorem back_yes (x : Lt) (w : World) (h : LAt w x) (m : May x.h x.es) : Calls Try.prog 5 #[ltV x] w fun e w' => e = .returned (.bool true) ∧ Below w.heap.size w w' := by
  obtain ⟨w1, HW, ten, h1, hb1, hlt1⟩ := box_of h
  have hE' := fun w' (hb : Below w1.heap.size w1 w') => enc_yes (h1.below hb) m
  have hgood := good_laid h.hin h.ein m
  have hmore := bad_more h.hin h.ein m 0
  have hless : ∀ s, s = str ((lmtB x.h x.es).take ((lmtB x.h x.es).length - 1)) → ¬ GoodL s := fun s hs => bad_less h.hin h.ein m _ (by have := lmtB_pos x.h x.es; omega) hs
  have hpos := lmtB_pos x.h x.es
  have hle := lmtB_le h.hin h.ein m.1
  obtain ⟨L, hL⟩ : ∃ L, lmtB x.h x.es = L := ⟨_, rfl⟩
  rw [hL] at hgood hmore hless hpos hle
  simp only [hL] at hE'
  obtain ⟨S, hS⟩ : ∃ S, str L = S := ⟨_, rfl⟩
  have hSz : S.size = L.length := by rw [← hS, str_size]
  have hS0 : S ++ ⟨#[0]⟩ = str (L ++ [0]) := by rw [← str_append, hS]; rfl
  have hS1 : S.extract 0 (S.size - 1) = str (L.take (L.length - 1)) := by rw [hSz, ← hS, Reads.extract_str, List.drop_zero, Nat.sub_zero]
  rw [← hS0] at hmore
  have hless1 := hless _ hS1
  rw [hS] at hgood
  simp only [hS] at hE'
  obtain ⟨⟨hgood, ghd⟩, ges⟩ : (GoodL S ∧ hd S = x.h) ∧ es S = x.es := ⟨⟨hgood.1, hgood.2.1⟩, hgood.2.2⟩
  have hsz : S.size ≤ 281474976710656 := by omega
  have hsz0 : (S ++ ⟨#[0]⟩).size ≤ 281474976710656 := by rw [hS0, str_size, List.length_append]; simp; omega
  have hsz1 : (S.extract 0 (S.size - 1)).size ≤ 281474976710656 := by rw [hS1, str_size, List.length_take]; omega
  have hsum : S.size + 1 ≤ 9223372036854775807 := by omega
  obtain ⟨n, hn⟩ : ∃ n, S.size = n + 1 := ⟨S.size - 1, by omega⟩
  have hn1 : S.size - 1 = n := by omega
  rw [hn1] at hless1 hsz1
  have hcut := cut_to S n (by omega)
  have HD := Lib.hid (fun w' => dec_any S hsz w')
  have HD0 := Lib.hid (fun w' => dec_any (S ++ ⟨#[0]⟩) hsz0 w')
  have HD1 := Lib.hid (fun w' => dec_any (S.extract 0 n) hsz1 w')
  have HG := Lib.hid hgood
  have HMORE := Lib.hid hmore
  have HLESS := Lib.hid hless1
  have HHD := Lib.hid ghd
  have HES := Lib.hid ges
  have HSAID : Hid (∀ y : Lt, y.said = (hd S, es S) → Lt.said x = y.said) := fun y hy => by rw [hy, ghd, ges]; rfl
  obtain ⟨⟨k, f, t, tm, ix, pv, cm, ok, d⟩, A, n, c, es⟩ := x
  have c0 := ten.c0
  have c1 := ten.c1
  have c2 := ten.c2
  have c3 := ten.c3
  have c4 := ten.c4
  have c5 := ten.c5
  have c6 := ten.c6
  have c7 := ten.c7
  have c8 := ten.c8
  have c9 := ten.c9
  rw [Nat.zero_add] at c1 c2 c3 c4 c5 c6 c7 c8 c9
  simp only [ltCs] at HW c0 c1 c2 c3 c4 c5 c6 c7 c8 c9
  unfold ltV at hE' ⊢
  simp only at hE' ⊢
  have HE := Lib.hid hE'
  have HX := Lib.hid h1
  have HN := Lib.hid hn
  have HB1 := Lib.hid hb1
  clear h h1 ten hE' m hgood hmore hless hless1 hpos hle hL hS hSz hS0 hS1 ghd ges hsz hsz0 hsz1 hn1 hb1
  go_enter Try.func5, Try.ntmps5
  go_wp2_with fail
  rw [HW.out]
  with_reducible refine (begun_true w1).mono ?_
  rintro e w2 ⟨rfl, hb2⟩
  have d0 := (hb2.cell (p := ⟨w.heap.size, 0, none⟩) hlt1).trans c0
  have d1 := (hb2.cell (p := ⟨w.heap.size, 1, none⟩) hlt1).trans c1
  have d2 := (hb2.cell (p := ⟨w.heap.size, 2, none⟩) hlt1).trans c2
  have d3 := (hb2.cell (p := ⟨w.heap.size, 3, none⟩) hlt1).trans c3
  have d4 := (hb2.cell (p := ⟨w.heap.size, 4, none⟩) hlt1).trans c4
  have d5 := (hb2.cell (p := ⟨w.heap.size, 5, none⟩) hlt1).trans c5
  have d6 := (hb2.cell (p := ⟨w.heap.size, 6, none⟩) hlt1).trans c6
  have d7 := (hb2.cell (p := ⟨w.heap.size, 7, none⟩) hlt1).trans c7
  have d8 := (hb2.cell (p := ⟨w.heap.size, 8, none⟩) hlt1).trans c8
  have d9 := (hb2.cell (p := ⟨w.heap.size, 9, none⟩) hlt1).trans c9
  have hlt2 := Nat.lt_of_lt_of_le hlt1 hb2.size
  clear c0 c1 c2 c3 c4 c5 c6 c7 c8 c9
  go_wp2_with fail
  with_reducible refine (HE.out _ hb2).mono ?_
  rintro e w3 ⟨rfl, hb3⟩
  have c0 := (hb3.cell (p := ⟨w.heap.size, 0, none⟩) hlt2).trans d0
  have c1 := (hb3.cell (p := ⟨w.heap.size, 1, none⟩) hlt2).trans d1
  have c2 := (hb3.cell (p := ⟨w.heap.size, 2, none⟩) hlt2).trans d2
  have c3 := (hb3.cell (p := ⟨w.heap.size, 3, none⟩) hlt2).trans d3
  have c4 := (hb3.cell (p := ⟨w.heap.size, 4, none⟩) hlt2).trans d4
  have c5 := (hb3.cell (p := ⟨w.heap.size, 5, none⟩) hlt2).trans d5
  have c6 := (hb3.cell (p := ⟨w.heap.size, 6, none⟩) hlt2).trans d6
  have c7 := (hb3.cell (p := ⟨w.heap.size, 7, none⟩) hlt2).trans d7
  have c8 := (hb3.cell (p := ⟨w.heap.size, 8, none⟩) hlt2).trans d8
  have c9 := (hb3.cell (p := ⟨w.heap.size, 9, none⟩) hlt2).trans d9
  clear d0 d1 d2 d3 d4 d5 d6 d7 d8 d9
  have hB3 := hb2.trans (hb3.mono hb2.size)
  have hlt3 := Nat.lt_of_lt_of_le hlt2 hb3.size
  clear hb2 hb3 hlt2
  go_wp2_with fail
  with_reducible refine (HD.out _).mono ?_
  rintro e w4 ⟨y, z, rfl, hy, hb4, hcy⟩
  rcases hcy with ⟨_, rfl, hsaid⟩ | ⟨g, _, _⟩
  case inr => exact absurd HG.out g
  have d0 := (hb4.cell (p := ⟨w.heap.size, 0, none⟩) hlt3).trans c0
  have d1 := (hb4.cell (p := ⟨w.heap.size, 1, none⟩) hlt3).trans c1
  have d2 := (hb4.cell (p := ⟨w.heap.size, 2, none⟩) hlt3).trans c2
  have d3 := (hb4.cell (p := ⟨w.heap.size, 3, none⟩) hlt3).trans c3
  have d4 := (hb4.cell (p := ⟨w.heap.size, 4, none⟩) hlt3).trans c4
  have d5 := (hb4.cell (p := ⟨w.heap.size, 5, none⟩) hlt3).trans c5
  have d6 := (hb4.cell (p := ⟨w.heap.size, 6, none⟩) hlt3).trans c6
  have d7 := (hb4.cell (p := ⟨w.heap.size, 7, none⟩) hlt3).trans c7
  have d8 := (hb4.cell (p := ⟨w.heap.size, 8, none⟩) hlt3).trans c8
  have d9 := (hb4.cell (p := ⟨w.heap.size, 9, none⟩) hlt3).trans c9
  clear c0 c1 c2 c3 c4 c5 c6 c7 c8 c9
  have hlt4 := Nat.lt_of_lt_of_le hlt3 hb4.size
  have hB4 := hB3.trans (hb4.mono hB3.size)
  have hsd := HSAID.out y hsaid
  have teny := ten_new w4 y
  have hby : Below w4.heap.size w4 (w4.alloc (.cells (ltCs y).toArray 25)) := (Below.refl _ _).alloc (Nat.le_refl _) _
  have hlty : w4.heap.size < (w4.alloc (.cells (ltCs y).toArray 25)).heap.size := by simp
  obtain ⟨w5, hw5⟩ : ∃ w5, w4.alloc (.cells (ltCs y).toArray 25) = w5 := ⟨_, rfl⟩
  rw [hw5] at teny hby hlty
  have HY := hy.below hby
  obtain ⟨⟨ky, fy, ty, tmy, ixy, pvy, cmy, oky, dy⟩, Ay, ny, cy, esy⟩ := y
  have e0 := teny.c0
  have e1 := teny.c1
  have e2 := teny.c2
  have e3 := teny.c3
  have e4 := teny.c4
  have e5 := teny.c5
  have e6 := teny.c6
  have e7 := teny.c7
  have e8 := teny.c8
  have e9 := teny.c9
  rw [Nat.zero_add] at e1 e2 e3 e4 e5 e6 e7 e8 e9
  have c0 := (hby.cell (p := ⟨w.heap.size, 0, none⟩) hlt4).trans d0
  have c1 := (hby.cell (p := ⟨w.heap.size, 1, none⟩) hlt4).trans d1
  have c2 := (hby.cell (p := ⟨w.heap.size, 2, none⟩) hlt4).trans d2
  have c3 := (hby.cell (p := ⟨w.heap.size, 3, none⟩) hlt4).trans d3
  have c4 := (hby.cell (p := ⟨w.heap.size, 4, none⟩) hlt4).trans d4
  have c5 := (hby.cell (p := ⟨w.heap.size, 5, none⟩) hlt4).trans d5
  have c6 := (hby.cell (p := ⟨w.heap.size, 6, none⟩) hlt4).trans d6
  have c7 := (hby.cell (p := ⟨w.heap.size, 7, none⟩) hlt4).trans d7
  have c8 := (hby.cell (p := ⟨w.heap.size, 8, none⟩) hlt4).trans d8
  have c9 := (hby.cell (p := ⟨w.heap.size, 9, none⟩) hlt4).trans d9
  clear d0 d1 d2 d3 d4 d5 d6 d7 d8 d9
  simp only [ltCs] at hw5 e0 e1 e2 e3 e4 e5 e6 e7 e8 e9
  have hlt5 := Nat.lt_of_lt_of_le hlt4 hby.size
  have hB5 := hB4.trans (hby.mono hB4.size)
  have HW5 := Lib.hid hw5
  have HSD := Lib.hid hsd
  clear hw5 hsd hsaid teny hy hby hb4 hB4 hB3 hlt3 hlt4
  unfold ltV
  simp only
  go_wp2_with fail
  rw [HW5.out]
  with_reducible refine (HD0.out _).mono ?_
  rintro e w6 ⟨y, z, rfl, _, hb6, hcy⟩
  rcases hcy with ⟨g, _, _⟩ | ⟨_, rfl, rfl⟩
  case inl => exact absurd g HMORE.out
  have d0 := (hb6.cell (p := ⟨w.heap.size, 0, none⟩) hlt5).trans c0
  have d1 := (hb6.cell (p := ⟨w.heap.size, 1, none⟩) hlt5).trans c1
  have d2 := (hb6.cell (p := ⟨w.heap.size, 2, none⟩) hlt5).trans c2
  have d3 := (hb6.cell (p := ⟨w.heap.size, 3, none⟩) hlt5).trans c3
  have d4 := (hb6.cell (p := ⟨w.heap.size, 4, none⟩) hlt5).trans c4
  have d5 := (hb6.cell (p := ⟨w.heap.size, 5, none⟩) hlt5).trans c5
  have d6 := (hb6.cell (p := ⟨w.heap.size, 6, none⟩) hlt5).trans c6
  have d7 := (hb6.cell (p := ⟨w.heap.size, 7, none⟩) hlt5).trans c7
  have d8 := (hb6.cell (p := ⟨w.heap.size, 8, none⟩) hlt5).trans c8
  have d9 := (hb6.cell (p := ⟨w.heap.size, 9, none⟩) hlt5).trans c9
  have f0 := (hb6.cell (p := ⟨w4.heap.size, 0, none⟩) hlty).trans e0
  have f1 := (hb6.cell (p := ⟨w4.heap.size, 1, none⟩) hlty).trans e1
  have f2 := (hb6.cell (p := ⟨w4.heap.size, 2, none⟩) hlty).trans e2
  have f3 := (hb6.cell (p := ⟨w4.heap.size, 3, none⟩) hlty).trans e3
  have f4 := (hb6.cell (p := ⟨w4.heap.size, 4, none⟩) hlty).trans e4
  have f5 := (hb6.cell (p := ⟨w4.heap.size, 5, none⟩) hlty).trans e5
  have f6 := (hb6.cell (p := ⟨w4.heap.size, 6, none⟩) hlty).trans e6
  have f7 := (hb6.cell (p := ⟨w4.heap.size, 7, none⟩) hlty).trans e7
  have f8 := (hb6.cell (p := ⟨w4.heap.size, 8, none⟩) hlty).trans e8
  have f9 := (hb6.cell (p := ⟨w4.heap.size, 9, none⟩) hlty).trans e9
  clear c0 c1 c2 c3 c4 c5 c6 c7 c8 c9
  clear e0 e1 e2 e3 e4 e5 e6 e7 e8 e9
  have hlt6 := Nat.lt_of_lt_of_le hlt5 hb6.size
  have hlty6 := Nat.lt_of_lt_of_le hlty hb6.size
  have hB6 := hB5.trans (hb6.mono hB5.size)
  have HY6 := HY.below hb6
  have hbz : Below w6.heap.size w6 (w6.alloc (.cells (ltCs zeroL).toArray 25)) := (Below.refl _ _).alloc (Nat.le_refl _) _
  obtain ⟨w7, hw7⟩ : ∃ w7, w6.alloc (.cells (ltCs zeroL).toArray 25) = w7 := ⟨_, rfl⟩
  rw [hw7] at hbz
  have HW7 : Hid (w6.alloc (.cells #[.int .i64 0, .int .i64 0, .int .i64 0, .int .u64 0, .int .u64 0, .int .u64 0, .int .u64 0, .bool false, .slice none 0 0, .string ⟨#[]⟩] 25) = w7) := hw7
  have c0 := (hbz.cell (p := ⟨w.heap.size, 0, none⟩) hlt6).trans d0
  have c1 := (hbz.cell (p := ⟨w.heap.size, 1, none⟩) hlt6).trans d1
  have c2 := (hbz.cell (p := ⟨w.heap.size, 2, none⟩) hlt6).trans d2
  have c3 := (hbz.cell (p := ⟨w.heap.size, 3, none⟩) hlt6).trans d3
  have c4 := (hbz.cell (p := ⟨w.heap.size, 4, none⟩) hlt6).trans d4
  have c5 := (hbz.cell (p := ⟨w.heap.size, 5, none⟩) hlt6).trans d5
  have c6 := (hbz.cell (p := ⟨w.heap.size, 6, none⟩) hlt6).trans d6
  have c7 := (hbz.cell (p := ⟨w.heap.size, 7, none⟩) hlt6).trans d7
  have c8 := (hbz.cell (p := ⟨w.heap.size, 8, none⟩) hlt6).trans d8
  have c9 := (hbz.cell (p := ⟨w.heap.size, 9, none⟩) hlt6).trans d9
  have e0 := (hbz.cell (p := ⟨w4.heap.size, 0, none⟩) hlty6).trans f0
  have e1 := (hbz.cell (p := ⟨w4.heap.size, 1, none⟩) hlty6).trans f1
  have e2 := (hbz.cell (p := ⟨w4.heap.size, 2, none⟩) hlty6).trans f2
  have e3 := (hbz.cell (p := ⟨w4.heap.size, 3, none⟩) hlty6).trans f3
  have e4 := (hbz.cell (p := ⟨w4.heap.size, 4, none⟩) hlty6).trans f4
  have e5 := (hbz.cell (p := ⟨w4.heap.size, 5, none⟩) hlty6).trans f5
  have e6 := (hbz.cell (p := ⟨w4.heap.size, 6, none⟩) hlty6).trans f6
  have e7 := (hbz.cell (p := ⟨w4.heap.size, 7, none⟩) hlty6).trans f7
  have e8 := (hbz.cell (p := ⟨w4.heap.size, 8, none⟩) hlty6).trans f8
  have e9 := (hbz.cell (p := ⟨w4.heap.size, 9, none⟩) hlty6).trans f9
  clear d0 d1 d2 d3 d4 d5 d6 d7 d8 d9
  clear f0 f1 f2 f3 f4 f5 f6 f7 f8 f9
  have hlt7 := Nat.lt_of_lt_of_le hlt6 hbz.size
  have hlty7 := Nat.lt_of_lt_of_le hlty6 hbz.size
  have hB7 := hB6.trans (hbz.mono hB6.size)
  have HY7 := HY6.below hbz
  clear hw7 hb6 hbz hB5 hB6 HY HY6 hlt5 hlt6 hlty hlty6
  unfold ltV zeroL zeroH
  simp only
  go_wp2_with fail
  rw [HW7.out]
  with_reducible refine (HD1.out _).mono ?_
  rintro e w8 ⟨y, z, rfl, _, hb8, hcy⟩
  rcases hcy with ⟨g, _, _⟩ | ⟨_, rfl, rfl⟩
  case inl => exact absurd g HLESS.out
  have d0 := (hb8.cell (p := ⟨w.heap.size, 0, none⟩) hlt7).trans c0
  have d1 := (hb8.cell (p := ⟨w.heap.size, 1, none⟩) hlt7).trans c1
  have d2 := (hb8.cell (p := ⟨w.heap.size, 2, none⟩) hlt7).trans c2
  have d3 := (hb8.cell (p := ⟨w.heap.size, 3, none⟩) hlt7).trans c3
  have d4 := (hb8.cell (p := ⟨w.heap.size, 4, none⟩) hlt7).trans c4
  have d5 := (hb8.cell (p := ⟨w.heap.size, 5, none⟩) hlt7).trans c5
  have d6 := (hb8.cell (p := ⟨w.heap.size, 6, none⟩) hlt7).trans c6
  have d7 := (hb8.cell (p := ⟨w.heap.size, 7, none⟩) hlt7).trans c7
  have d8 := (hb8.cell (p := ⟨w.heap.size, 8, none⟩) hlt7).trans c8
  have d9 := (hb8.cell (p := ⟨w.heap.size, 9, none⟩) hlt7).trans c9
  have f0 := (hb8.cell (p := ⟨w4.heap.size, 0, none⟩) hlty7).trans e0
  have f1 := (hb8.cell (p := ⟨w4.heap.size, 1, none⟩) hlty7).trans e1
  have f2 := (hb8.cell (p := ⟨w4.heap.size, 2, none⟩) hlty7).trans e2
  have f3 := (hb8.cell (p := ⟨w4.heap.size, 3, none⟩) hlty7).trans e3
  have f4 := (hb8.cell (p := ⟨w4.heap.size, 4, none⟩) hlty7).trans e4
  have f5 := (hb8.cell (p := ⟨w4.heap.size, 5, none⟩) hlty7).trans e5
  have f6 := (hb8.cell (p := ⟨w4.heap.size, 6, none⟩) hlty7).trans e6
  have f7 := (hb8.cell (p := ⟨w4.heap.size, 7, none⟩) hlty7).trans e7
  have f8 := (hb8.cell (p := ⟨w4.heap.size, 8, none⟩) hlty7).trans e8
  have f9 := (hb8.cell (p := ⟨w4.heap.size, 9, none⟩) hlty7).trans e9
  clear c0 c1 c2 c3 c4 c5 c6 c7 c8 c9
  clear e0 e1 e2 e3 e4 e5 e6 e7 e8 e9
  have hlt8 := Nat.lt_of_lt_of_le hlt7 hb8.size
  have hlty8 := Nat.lt_of_lt_of_le hlty7 hb8.size
  have hbq : Below w8.heap.size w8 (w8.alloc (.cells (ltCs zeroL).toArray 25)) := (Below.refl _ _).alloc (Nat.le_refl _) _
  obtain ⟨w9, hw9⟩ : ∃ w9, w8.alloc (.cells (ltCs zeroL).toArray 25) = w9 := ⟨_, rfl⟩
  rw [hw9] at hbq
  have HW9 : Hid (w8.alloc (.cells #[.int .i64 0, .int .i64 0, .int .i64 0, .int .u64 0, .int .u64 0, .int .u64 0, .int .u64 0, .bool false, .slice none 0 0, .string ⟨#[]⟩] 25) = w9) := hw9
  have hB9 := (hB7.trans (hb8.mono hB7.size)).trans (hbq.mono (hB7.trans (hb8.mono hB7.size)).size)
  have HY9 := (HY7.below hb8).below hbq
  have HX9 := HX.out.below hB9
  have hsame := same_any HX9 HY9 true (by simp [HSD.out])
  have HB9 := Lib.hid (HB1.out.trans (hB9.mono HB1.out.size))
  unfold ltV at hsame
  simp only at hsame
  have HSM := Lib.hid hsame
  clear hw9 hb8 hbq hB7 hB9 HY7 HY9 HX9 hsame hlt7 hlty7
  unfold ltV zeroL zeroH
  simp only
  go_wp2_with fail
  rw [HW9.out]
  with_reducible refine HSM.out.mono ?_
  rintro e w10 ⟨rfl, hb10⟩
  go_wp2
  go_ret
  exact ⟨rfl, HB9.out.trans (hb10.mono HB9.out.size)⟩
theorem back_walk (x : Lt) (w : World) (h : LAt w x) : Calls Try.prog 5 #[ltV x] w fun e w' => e = .returned (.bool true) ∧ Below w.heap.size w w' := by
  by_cases m : May x.h x.es
  · exact back_yes x w h m
  · exact back_no x w h m
end Go.Proofs.Ytkimeggojcgacaa.LawC
