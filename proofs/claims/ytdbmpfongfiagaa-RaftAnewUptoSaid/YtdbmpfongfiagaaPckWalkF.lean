/- What the document's own reader answers, walked. -/
import Derived.Test.YtdbmpfongfiagaaPckWalkE
namespace Go.Proofs.Ytdbmpfongfiagaa.PckWalkF
open Go.RowKit Go.Proofs.Ytdbmpfongfiagaa.Kit Go.Proofs.Ytdbmpfongfiagaa.Num Go.Proofs.Ytdbmpfongfiagaa.State Go.Proofs.Ytdbmpfongfiagaa.PckWalkA Go.Proofs.Ytdbmpfongfiagaa.PckWalkC Go.Proofs.Ytdbmpfongfiagaa.PckWalkD Go.Proofs.Ytdbmpfongfiagaa.PckWalkE




theorem step_sum (v : Nat) (c : UInt8) : (256 * (v : Int) + (c.toNat : Int)) = ((256 * v + c.toNat : Nat) : Int) := by omega


end Go.Proofs.Ytdbmpfongfiagaa.PckWalkF
