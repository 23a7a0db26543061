/- What each statement of layer 1 asks first is true: a zero between, and a piece that is cut off. -/
import Derived.Test.YtokgompjomeolaaWalkG
namespace Go.Proofs.Ytokgompjomeolaa.WalkH
open Go.RowKit Go.Proofs.Ytokgompjomeolaa.Kit Go.Proofs.Ytokgompjomeolaa.Stuff Go.Proofs.Ytokgompjomeolaa.WalkA Go.Proofs.Ytokgompjomeolaa.WalkD Go.Proofs.Ytokgompjomeolaa.WalkG

theorem enc3 : encode [17, 0, 34] = [2, 17, 2, 34] := by
  rw [encode_zero _ (by decide) (by decide)]
  have e : List.drop (zl [17, 0, 34] + 1) [17, 0, 34] = ([34] : List UInt8) := by decide
  rw [e, encode_last [34] (by decide) (by decide)]
  decide
theorem dec2 : unstuff [3, 17] = none := decode_none _ (by decide)

set_option maxRecDepth 100000 in
set_option maxHeartbeats 1000000 in
theorem begun_true (w : World) : Calls Try.prog 9 #[] w fun e w' => e = .returned (.bool true) ∧ Below w.heap.size w w' := by
  have hr1 := reads_new w (vals [3, 17]) 5
  go_enter Try.func9, Try.ntmps9
  go_wp2_with fail
  refine (WalkD.decode_any _ 2 2 [3, 17] _ ?_ (by omega) (by omega) (by omega)).mono ?_
  · simpa [RB, vals] using hr1
  · rw [dec2]
    rintro e w1 ⟨rfl, hb1⟩
    have hb : Below w.heap.size w w1 := ((Below.refl _ w).alloc (Nat.le_refl _) _).trans (hb1.mono (by simp))
    have hr2 := reads_new w1 (vals [17, 0, 34]) 5
    go_wp2_with fail
    refine (WalkC.encode_any _ 3 3 [17, 0, 34] _ ?_ (by omega) (by omega) (by rw [enc3]; decide)).mono ?_
    · simpa [RB, vals] using hr2
    · rw [enc3]
      rintro e w2 ⟨v, rfl, hown, hb2⟩
      have hb' : Below w.heap.size w w2 := (hb.alloc hb.size _).trans (hb2.mono (by simp; have := hb.size; omega))
      obtain ⟨A2, c2, rfl, _, _, hr3⟩ := own_form hown
      have hc : (convert 22 9 (.slice A2 4 c2)).run Try.prog w2 = .ok (.string ⟨#[2, 17, 2, 34]⟩) w2 := conv _ _ _ _ c2 _ hr3
      go_wp2_with fail
      go_ret
      exact ⟨rfl, hb'⟩
end Go.Proofs.Ytokgompjomeolaa.WalkH
