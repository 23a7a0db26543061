/- What the program's Change and the document's answer, walked. -/
import Derived.Test.YtokifeghoodkgaaQuoWalkD
namespace Go.Proofs.Ytokifeghoodkgaa.Change
open Go.RowKit Go.Proofs.Ytokifeghoodkgaa.Kit Go.Proofs.Ytokifeghoodkgaa.Blocks Go.Proofs.Ytokifeghoodkgaa.Quorum Go.Proofs.Ytokifeghoodkgaa.QuoWalkA Go.Proofs.Ytokifeghoodkgaa.QuoWalkB Go.Proofs.Ytokifeghoodkgaa.QuoWalkC Go.Proofs.Ytokifeghoodkgaa.QuoWalkD

theorem sound_hid {c : Nat} {b : Bool} (hc : c < 2 ^ 64) (h : Hid (sound c = b)) (w : World) : Calls Try.prog 17 #[.int .u64 (c : Int)] w fun e w' => e = .returned (.bool b) ∧ w = w' := by
  have := sound_any c hc w
  rwa [h.out] at this
/-- A pair of numbers is handed back. -/
def Pair (r : Nat × Nat) (e : Ending) : Prop := e = .returned (.tuple #[.int .u64 (r.1 : Int), .int .i64 (r.2 : Int)])
theorem change_no {c : Nat} {add : Bool} {n : Int} (h : ¬ (sound c = true ∧ node n = true)) : change c add n = (0, 1) := if_neg h
theorem change_yes {c i : Nat} {add : Bool} (hs : sound c = true) (hi : i < 7) : change c add (i : Int) = turn c add i := by
  unfold change
  rw [if_pos ⟨hs, node_of hi⟩, Int.toNat_natCast]
theorem sound_lt {c : Nat} (h : sound c = true) : 0 < c ∧ c < 128 := of_decide_eq_true h


end Go.Proofs.Ytokifeghoodkgaa.Change
