/- What each statement of layer 11 asks first, walked; what the program's and the document's calls answer, in one way. No statement is proved here. -/
import Derived.Test.YtkimeggojcgacaaWalkB
import Derived.Test.YtkimeggojcgacaaWalkC
set_option linter.unusedVariables false
set_option linter.unusedSimpArgs false
namespace Go.Proofs.Ytkimeggojcgacaa.Begun
open Go.RowKit Go.Proofs.Ytkimeggojcgacaa.Kit Go.Proofs.Ytkimeggojcgacaa.Ltr Go.Proofs.Ytkimeggojcgacaa.Lmt Go.Proofs.Ytkimeggojcgacaa.Wr Go.Proofs.Ytkimeggojcgacaa.Dk Go.Proofs.Ytkimeggojcgacaa.WalkB Go.Proofs.Ytkimeggojcgacaa.WalkC
open Go.Proofs.Ytkimeggojcgacaa.State (cell_at free_at lt_at)
open Go.Proofs.Ytkimeggojcgacaa.Num (num wide)
open Go.Proofs.Ytkimeggojcgacaa.PckWalkB (text bit)
open Go.Proofs.Ytkimeggojcgacaa.PckWalkH (str str_list str_size)

def vote : Lt := ⟨⟨2, 0, 1, 3, 0, 0, 0, true, ⟨#[]⟩⟩, none, 0, 0, []⟩
theorem vote_at (w : World) : LAt w vote := ⟨RE.nil _ _ _, by decide, ⟨by decide, by decide, by decide, by decide, by decide, by decide, by decide, by decide⟩, fun e h => by cases h⟩
theorem vote_may : May vote.h vote.es := ⟨⟨by decide, by decide, by decide, by decide, by decide, by decide, by decide, by decide, fun e h => by cases h⟩, by decide, by decide⟩
theorem vote_bytes : lmtB vote.h vote.es = [1, 2, 0, 1, 1, 1, 3, 0, 0, 0, 1, 1, 0, 0] := by
  have h0 : num 0 = [0] := by simp [num, wide, Num.dig]
  have h1 : num 1 = [1, 1] := by simp [num, wide, Num.dig]
  have h2 : num 2 = [1, 2] := by simp [num, wide, Num.dig]
  have h3 : num 3 = [1, 3] := by simp [num, wide, Num.dig]
  have e := lmtB_tail vote.h vote.es []
  rw [List.append_nil] at e
  rw [e]
  have g0 : vote.h.k.toNat = 2 := rfl
  have g1 : vote.h.f.toNat = 0 := rfl
  have g2 : vote.h.t.toNat = 1 := rfl
  have g3 : vote.h.tm.toNat = 3 := rfl
  have g4 : vote.h.ix.toNat = 0 := rfl
  have g5 : vote.h.pv.toNat = 0 := rfl
  have g6 : vote.h.cm.toNat = 0 := rfl
  have g7 : bit vote.h.ok = 1 := rfl
  have g8 : vote.es.length = 0 := rfl
  have g9 : entsB vote.es = [] := rfl
  have g10 : text vote.h.d = [0] := by
    show num 0 ++ [] = _
    rw [h0]
    rfl
  rw [g0, g1, g2, g3, g4, g5, g6, g7, g8, g9, g10, h0, h1, h2, h3]
  rfl
set_option maxRecDepth 100000 in
theorem begun_true (w : World) : Calls Try.prog 8 #[] w fun e w' => e = .returned (.bool true) ∧ Below w.heap.size w w' := by
  have henc := enc_yes (vote_at w) vote_may
  rw [vote_bytes] at henc
  obtain ⟨S, hS⟩ : ∃ S, str [1, 2, 0, 1, 1, 1, 3, 0, 0, 0, 1, 1, 0, 0] = S := ⟨_, rfl⟩
  have hsaid : (S.toList == [1, 2, 0, 1, 1, 1, 3, 0, 0, 0, 1, 1, 0, 0]) = true := by rw [← hS, Lib.toList_data]; decide
  rw [hS] at henc
  have HE : Hid (Calls Try.prog 9 #[.agg #[.int .i64 2, .int .i64 0, .int .i64 1, .int .u64 3, .int .u64 0, .int .u64 0, .int .u64 0, .bool true, .slice none 0 0, .string ⟨#[]⟩]] w (Enc w S 0)) := henc
  clear henc hS
  go_enter Try.func8, Try.ntmps8
  go_wp2_with fail
  refine HE.out.mono ?_
  rintro e w1 ⟨rfl, hb1⟩
  go_wp2
  go_ret
  exact ⟨rfl, hb1⟩
end Go.Proofs.Ytkimeggojcgacaa.Begun
