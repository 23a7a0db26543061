/- What the document's Files and Ints leave, walked. -/
import Derived.Test.YtmimpfccngihiaaDoorRefE
import Derived.Test.YtmimpfccngihiaaDoorDskWalkJ
import Derived.Lib.MinMax
namespace Go.Proofs.YtmimpfccngihiaaDoor.RefF
open Go.RowKit Go.Proofs.YtmimpfccngihiaaDoor.Kit Go.Proofs.YtmimpfccngihiaaDoor.Blocks Go.Proofs.YtmimpfccngihiaaDoor.Model Go.Proofs.YtmimpfccngihiaaDoor.DskWalkA Go.Proofs.YtmimpfccngihiaaDoor.DskWalkC Go.Proofs.YtmimpfccngihiaaDoor.DskWalkD Go.Proofs.YtmimpfccngihiaaDoor.DskWalkJ Go.Proofs.YtmimpfccngihiaaDoor.Ref Go.Proofs.YtmimpfccngihiaaDoor.RefB Go.Proofs.YtmimpfccngihiaaDoor.RefC

section
variable {w : World} {q : Nat} {m : M}
end

end Go.Proofs.YtmimpfccngihiaaDoor.RefF
