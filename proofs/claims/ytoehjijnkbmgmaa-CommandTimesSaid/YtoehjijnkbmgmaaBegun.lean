/- What each statement of layer 16 asks first, walked. No statement is proved here. -/
import Derived.Test.YtoehjijnkbmgmaaWalkB
set_option linter.unusedVariables false
set_option linter.unusedSimpArgs false
namespace Go.Proofs.Ytoehjijnkbmgmaa.Begun
open Go.RowKit Go.Proofs.Ytoehjijnkbmgmaa.Kit Go.Proofs.Ytoehjijnkbmgmaa.Stq Go.Proofs.Ytoehjijnkbmgmaa.Pln Go.Proofs.Ytoehjijnkbmgmaa.Cmd Go.Proofs.Ytoehjijnkbmgmaa.CmdAt Go.Proofs.Ytoehjijnkbmgmaa.WalkB
open Go.Proofs.Ytoehjijnkbmgmaa.Num (num wide)
open Go.Proofs.Ytoehjijnkbmgmaa.PckWalkH (str str_list str_size)

def ask : Cm := ⟨5, 2, 3, 5, [], 0, false, 0, false, 0⟩
theorem ask_at (w : World) : CAt w none 0 ask := ⟨RS.nil _ _ _, by decide, (fun e h => by cases h), ⟨by decide, by decide, by decide, by decide⟩⟩
theorem ask_may : mayB ask = true := by decide
theorem ask_bytes : cmB ask = [1, 5, 1, 2, 1, 3, 1, 5, 0] := by
  have h0 : num 0 = [0] := by simp [num, wide, Num.dig]
  have h2 : num 2 = [1, 2] := by simp [num, wide, Num.dig]
  have h3 : num 3 = [1, 3] := by simp [num, wide, Num.dig]
  have h5 : num 5 = [1, 5] := by simp [num, wide, Num.dig]
  have g : u64 ask.k = 5 := by decide
  have t : tailB ask = [] := by unfold tailB; rw [if_neg (by decide), if_neg (by decide)]
  unfold cmB
  rw [g, t]
  show num 5 ++ (num 2 ++ (num 3 ++ (num 5 ++ (num 0 ++ [])))) = _
  rw [h0, h2, h3, h5]
  rfl
set_option maxRecDepth 100000 in
theorem begun_true (w : World) : Calls Try.prog 9 #[] w fun e w' => e = .returned (.bool true) ∧ Below w.heap.size w w' := by
  have henc := enc_any 0 (ask_at w)
  rw [encS_may ask_may, encZ_may ask_may, ask_bytes] at henc
  obtain ⟨S, hS⟩ : ∃ S, str [1, 5, 1, 2, 1, 3, 1, 5, 0] = S := ⟨_, rfl⟩
  have hsaid : (S.toList == [1, 5, 1, 2, 1, 3, 1, 5, 0]) = true := by rw [← hS, Lib.toList_data]; decide
  rw [hS] at henc
  have HE : Hid (Calls Try.prog 10 #[.agg #[.int .i64 5, .int .u64 2, .int .u64 3, .int .u64 5, .slice none 0 0, .int .i64 0, .bool false, .int .i64 0, .bool false, .int .u64 0]] w (Enc w S 0)) := henc
  clear henc hS
  go_enter Try.func9, Try.ntmps9
  go_wp2_with fail
  refine HE.out.mono ?_
  rintro e w1 ⟨rfl, hb1⟩
  go_wp2
  go_ret
  exact ⟨rfl, hb1⟩
end Go.Proofs.Ytoehjijnkbmgmaa.Begun
