/- What the document's own reader answers, walked. -/
import Derived.Test.YtamncdpeklbhlaaDoorPckWalkE
namespace Go.Proofs.YtamncdpeklbhlaaDoor.PckWalkF
open Go.RowKit Go.Proofs.YtamncdpeklbhlaaDoor.Kit Go.Proofs.YtamncdpeklbhlaaDoor.Num Go.Proofs.YtamncdpeklbhlaaDoor.State Go.Proofs.YtamncdpeklbhlaaDoor.PckWalkA Go.Proofs.YtamncdpeklbhlaaDoor.PckWalkC Go.Proofs.YtamncdpeklbhlaaDoor.PckWalkD Go.Proofs.YtamncdpeklbhlaaDoor.PckWalkE




theorem step_sum (v : Nat) (c : UInt8) : (256 * (v : Int) + (c.toNat : Int)) = ((256 * v + c.toNat : Nat) : Int) := by omega


end Go.Proofs.YtamncdpeklbhlaaDoor.PckWalkF
