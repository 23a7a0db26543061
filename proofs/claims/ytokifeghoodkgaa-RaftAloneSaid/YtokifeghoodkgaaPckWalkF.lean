/- What the document's own reader answers, walked. -/
import Derived.Test.YtokifeghoodkgaaPckWalkE
namespace Go.Proofs.Ytokifeghoodkgaa.PckWalkF
open Go.RowKit Go.Proofs.Ytokifeghoodkgaa.Kit Go.Proofs.Ytokifeghoodkgaa.Num Go.Proofs.Ytokifeghoodkgaa.State Go.Proofs.Ytokifeghoodkgaa.PckWalkA Go.Proofs.Ytokifeghoodkgaa.PckWalkC Go.Proofs.Ytokifeghoodkgaa.PckWalkD Go.Proofs.Ytokifeghoodkgaa.PckWalkE




theorem step_sum (v : Nat) (c : UInt8) : (256 * (v : Int) + (c.toNat : Int)) = ((256 * v + c.toNat : Nat) : Int) := by omega


end Go.Proofs.Ytokifeghoodkgaa.PckWalkF
