/- The walk of the statement that letters are encoded as the document has it. -/
import Derived.Test.YtkimeggojcgacaaBegun
import Derived.Test.YtkimeggojcgacaaWalkE
set_option linter.unusedVariables false
set_option linter.unusedSimpArgs false
namespace Go.Proofs.Ytkimeggojcgacaa.LawA
open Go.RowKit Go.Proofs.Ytkimeggojcgacaa.Kit Go.Proofs.Ytkimeggojcgacaa.Ltr Go.Proofs.Ytkimeggojcgacaa.Lmt Go.Proofs.Ytkimeggojcgacaa.Wr Go.Proofs.Ytkimeggojcgacaa.Dk Go.Proofs.Ytkimeggojcgacaa.WalkA Go.Proofs.Ytkimeggojcgacaa.WalkB Go.Proofs.Ytkimeggojcgacaa.WalkC Go.Proofs.Ytkimeggojcgacaa.Begun
open Go.Proofs.Ytkimeggojcgacaa.State (cell_at free_at lt_at)
open Go.Proofs.Ytkimeggojcgacaa.PckWalkH (str str_size str_list str_back str_append)
open Go.Proofs.Ytkimeggojcgacaa.WalkE

set_option maxRecDepth 100000 in
set_option maxHeartbeats 4000000 in
theorem encodes_any (x : Lt) (w : World) (h : LAt w x) (S : ByteArray) (z : Int) (b : Bool) (hz : (z = 0 ∧ b = true) ∨ (z = 1 ∧ b = false))
    (hE : ∀ w', LAt w' x → Calls Try.prog 9 #[ltV x] w' (Enc w' S z)) (hF : ∀ w', LAt w' x → Calls Try.prog 10 #[ltV x] w' (Enc w' S z))
    (hM : ∀ w', LAt w' x → Calls Try.prog 11 #[ltV x] w' fun e w'' => e = .returned (.bool b) ∧ Below w'.heap.size w' w'') :
    Calls Try.prog 3 #[ltV x] w fun e w' => e = .returned (.bool true) ∧ Below w.heap.size w w' := by
  obtain ⟨w1, HW, ten, h1, hb1, hlt1⟩ := box_of h
  have hE' := fun w' (hb : Below w1.heap.size w1 w') => hE w' (h1.below hb)
  have hF' := fun w' (hb : Below w1.heap.size w1 w') => hF w' (h1.below hb)
  have hM' := fun w' (hb : Below w1.heap.size w1 w') => hM w' (h1.below hb)
  obtain ⟨⟨k, f, t, tm, ix, pv, cm, ok, d⟩, A, n, c, es⟩ := x
  have c0 := ten.c0
  have c1 := ten.c1
  have c2 := ten.c2
  have c3 := ten.c3
  have c4 := ten.c4
  have c5 := ten.c5
  have c6 := ten.c6
  have c7 := ten.c7
  have c8 := ten.c8
  have c9 := ten.c9
  rw [Nat.zero_add] at c1 c2 c3 c4 c5 c6 c7 c8 c9
  simp only [ltCs] at HW c0 c1 c2 c3 c4 c5 c6 c7 c8 c9
  unfold ltV at hE' hF' hM' ⊢
  simp only at hE' hF' hM' ⊢
  have HE := Lib.hid hE'
  have HF := Lib.hid hF'
  have HM := Lib.hid hM'
  have hSS : (S.toList == S.toList) = true := by simp
  have HB1 := Lib.hid hb1
  clear h h1 ten hE hF hM hE' hF' hM' hb1
  go_enter Try.func3, Try.ntmps3
  go_wp2_with fail
  rw [HW.out]
  with_reducible refine (begun_true w1).mono ?_
  rintro e w2 ⟨rfl, hb2⟩
  have d0 := (hb2.cell (p := ⟨w.heap.size, 0, none⟩) hlt1).trans c0
  have d1 := (hb2.cell (p := ⟨w.heap.size, 1, none⟩) hlt1).trans c1
  have d2 := (hb2.cell (p := ⟨w.heap.size, 2, none⟩) hlt1).trans c2
  have d3 := (hb2.cell (p := ⟨w.heap.size, 3, none⟩) hlt1).trans c3
  have d4 := (hb2.cell (p := ⟨w.heap.size, 4, none⟩) hlt1).trans c4
  have d5 := (hb2.cell (p := ⟨w.heap.size, 5, none⟩) hlt1).trans c5
  have d6 := (hb2.cell (p := ⟨w.heap.size, 6, none⟩) hlt1).trans c6
  have d7 := (hb2.cell (p := ⟨w.heap.size, 7, none⟩) hlt1).trans c7
  have d8 := (hb2.cell (p := ⟨w.heap.size, 8, none⟩) hlt1).trans c8
  have d9 := (hb2.cell (p := ⟨w.heap.size, 9, none⟩) hlt1).trans c9
  have hlt2 := Nat.lt_of_lt_of_le hlt1 hb2.size
  clear c0 c1 c2 c3 c4 c5 c6 c7 c8 c9
  go_wp2_with fail
  with_reducible refine (HE.out _ hb2).mono ?_
  rintro e w3 ⟨rfl, hb3⟩
  have c0 := (hb3.cell (p := ⟨w.heap.size, 0, none⟩) hlt2).trans d0
  have c1 := (hb3.cell (p := ⟨w.heap.size, 1, none⟩) hlt2).trans d1
  have c2 := (hb3.cell (p := ⟨w.heap.size, 2, none⟩) hlt2).trans d2
  have c3 := (hb3.cell (p := ⟨w.heap.size, 3, none⟩) hlt2).trans d3
  have c4 := (hb3.cell (p := ⟨w.heap.size, 4, none⟩) hlt2).trans d4
  have c5 := (hb3.cell (p := ⟨w.heap.size, 5, none⟩) hlt2).trans d5
  have c6 := (hb3.cell (p := ⟨w.heap.size, 6, none⟩) hlt2).trans d6
  have c7 := (hb3.cell (p := ⟨w.heap.size, 7, none⟩) hlt2).trans d7
  have c8 := (hb3.cell (p := ⟨w.heap.size, 8, none⟩) hlt2).trans d8
  have c9 := (hb3.cell (p := ⟨w.heap.size, 9, none⟩) hlt2).trans d9
  clear d0 d1 d2 d3 d4 d5 d6 d7 d8 d9
  have hB3 := hb2.trans (hb3.mono hb2.size)
  have hlt3 := Nat.lt_of_lt_of_le hlt2 hb3.size
  clear hb2 hb3 hlt2
  go_wp2_with fail
  with_reducible refine (HF.out _ hB3).mono ?_
  rintro e w4 ⟨rfl, hb4⟩
  have d0 := (hb4.cell (p := ⟨w.heap.size, 0, none⟩) hlt3).trans c0
  have d1 := (hb4.cell (p := ⟨w.heap.size, 1, none⟩) hlt3).trans c1
  have d2 := (hb4.cell (p := ⟨w.heap.size, 2, none⟩) hlt3).trans c2
  have d3 := (hb4.cell (p := ⟨w.heap.size, 3, none⟩) hlt3).trans c3
  have d4 := (hb4.cell (p := ⟨w.heap.size, 4, none⟩) hlt3).trans c4
  have d5 := (hb4.cell (p := ⟨w.heap.size, 5, none⟩) hlt3).trans c5
  have d6 := (hb4.cell (p := ⟨w.heap.size, 6, none⟩) hlt3).trans c6
  have d7 := (hb4.cell (p := ⟨w.heap.size, 7, none⟩) hlt3).trans c7
  have d8 := (hb4.cell (p := ⟨w.heap.size, 8, none⟩) hlt3).trans c8
  have d9 := (hb4.cell (p := ⟨w.heap.size, 9, none⟩) hlt3).trans c9
  clear c0 c1 c2 c3 c4 c5 c6 c7 c8 c9
  have hB4 := hB3.trans (hb4.mono hB3.size)
  have hlt4 := Nat.lt_of_lt_of_le hlt3 hb4.size
  clear hb4 hB3 hlt3
  rcases hz with ⟨rfl, rfl⟩ | ⟨rfl, rfl⟩
  all_goals go_wp2_with fail
  all_goals with_reducible refine (HM.out _ hB4).mono ?_
  all_goals rintro e w5 ⟨rfl, hb5⟩
  all_goals go_wp2
  all_goals go_ret
  all_goals exact ⟨rfl, HB1.out.trans ((hB4.trans (hb5.mono hB4.size)).mono HB1.out.size)⟩
theorem encodes_walk (x : Lt) (w : World) (h : LAt w x) : Calls Try.prog 3 #[ltV x] w fun e w' => e = .returned (.bool true) ∧ Below w.heap.size w w' := by
  by_cases m : May x.h x.es
  · exact encodes_any x w h _ 0 true (.inl ⟨rfl, rfl⟩) (fun _ k => enc_yes k m) (fun _ k => renc_yes k m) (fun _ k => may_any k true (by simp [m]))
  · exact encodes_any x w h _ 1 false (.inr ⟨rfl, rfl⟩) (fun _ k => enc_no k m) (fun _ k => renc_no k m) (fun _ k => may_any k false (by simp [m]))
end Go.Proofs.Ytkimeggojcgacaa.LawA
