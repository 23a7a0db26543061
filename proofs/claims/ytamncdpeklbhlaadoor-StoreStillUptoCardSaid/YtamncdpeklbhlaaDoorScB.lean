/- What is scanned, walked: the document's own scanning; when texts are the same. -/
import Derived.Test.YtamncdpeklbhlaaDoorScA
import Derived.Deep.QuietTactic
import Derived.BigQuiet
set_option linter.unusedVariables false
set_option linter.unusedSimpArgs false
namespace Go.Proofs.YtamncdpeklbhlaaDoor.ScB
open Go.RowKit Go.Proofs.YtamncdpeklbhlaaDoor.Kit Go.Proofs.YtamncdpeklbhlaaDoor.Blocks Go.Proofs.YtamncdpeklbhlaaDoor.Stuff Go.Proofs.YtamncdpeklbhlaaDoor.Crc Go.Proofs.YtamncdpeklbhlaaDoor.SumA Go.Proofs.YtamncdpeklbhlaaDoor.SumB Go.Proofs.YtamncdpeklbhlaaDoor.Wal Go.Proofs.YtamncdpeklbhlaaDoor.StuWalkA Go.Proofs.YtamncdpeklbhlaaDoor.FrA Go.Proofs.YtamncdpeklbhlaaDoor.FrB Go.Proofs.YtamncdpeklbhlaaDoor.FrC Go.Proofs.YtamncdpeklbhlaaDoor.ScA
open Go.Proofs.YtamncdpeklbhlaaDoor.DskWalkC (str)



/-! ### The same texts -/
end Go.Proofs.YtamncdpeklbhlaaDoor.ScB
