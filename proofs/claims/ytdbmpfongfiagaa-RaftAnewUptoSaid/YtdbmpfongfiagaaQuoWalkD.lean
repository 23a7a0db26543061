/- What the document's Majority answers, walked; two lists of numbers compared. -/
import Derived.Test.YtdbmpfongfiagaaQuoWalkC
namespace Go.Proofs.Ytdbmpfongfiagaa.QuoWalkD
open Go.RowKit Go.Proofs.Ytdbmpfongfiagaa.Kit Go.Proofs.Ytdbmpfongfiagaa.Blocks Go.Proofs.Ytdbmpfongfiagaa.Quorum Go.Proofs.Ytdbmpfongfiagaa.QuoWalkA Go.Proofs.Ytdbmpfongfiagaa.QuoWalkB Go.Proofs.Ytdbmpfongfiagaa.QuoWalkC

theorem below_drewN (B : Nat) (w : World) (n : Nat) : Below B w (w.drewN n) := ⟨rfl, rfl, rfl, Nat.le_refl _, fun _ _ => rfl⟩
/-- Counting up to k. -/
def upto (p : Nat → Bool) (k : Nat) : Nat := ((List.range k).filter p).length
theorem upto_succ (p : Nat → Bool) (k : Nat) : upto p (k + 1) = upto p k + (if p k = true then 1 else 0) := by
  simp only [upto, List.range_succ, List.filter_append, List.length_append, List.filter_cons, List.filter_nil]
  split <;> rfl
theorem upto_le (p : Nat → Bool) (k : Nat) : upto p k ≤ k := by
  have := List.length_filter_le p (List.range k)
  simpa [upto] using this


end Go.Proofs.Ytdbmpfongfiagaa.QuoWalkD
