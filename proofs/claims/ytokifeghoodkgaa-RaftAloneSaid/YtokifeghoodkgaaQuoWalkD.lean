/- What the document's Majority answers, walked; two lists of numbers compared. -/
import Derived.Test.YtokifeghoodkgaaQuoWalkC
namespace Go.Proofs.Ytokifeghoodkgaa.QuoWalkD
open Go.RowKit Go.Proofs.Ytokifeghoodkgaa.Kit Go.Proofs.Ytokifeghoodkgaa.Blocks Go.Proofs.Ytokifeghoodkgaa.Quorum Go.Proofs.Ytokifeghoodkgaa.QuoWalkA Go.Proofs.Ytokifeghoodkgaa.QuoWalkB Go.Proofs.Ytokifeghoodkgaa.QuoWalkC

theorem below_drewN (B : Nat) (w : World) (n : Nat) : Below B w (w.drewN n) := ⟨rfl, rfl, rfl, Nat.le_refl _, fun _ _ => rfl⟩
/-- Counting up to k. -/
def upto (p : Nat → Bool) (k : Nat) : Nat := ((List.range k).filter p).length
theorem upto_succ (p : Nat → Bool) (k : Nat) : upto p (k + 1) = upto p k + (if p k = true then 1 else 0) := by
  simp only [upto, List.range_succ, List.filter_append, List.length_append, List.filter_cons, List.filter_nil]
  split <;> rfl
theorem upto_le (p : Nat → Bool) (k : Nat) : upto p k ≤ k := by
  have := List.length_filter_le p (List.range k)
  simpa [upto] using this


end Go.Proofs.Ytokifeghoodkgaa.QuoWalkD
