/- What the document's own reader answers, walked: numbers with a sign, up to a limit, texts. -/
import Derived.Test.YtamncdpeklbhlaaDoorPckWalkF
namespace Go.Proofs.YtamncdpeklbhlaaDoor.PckWalkG
open Go.RowKit Go.Proofs.YtamncdpeklbhlaaDoor.Kit Go.Proofs.YtamncdpeklbhlaaDoor.Num Go.Proofs.YtamncdpeklbhlaaDoor.State Go.Proofs.YtamncdpeklbhlaaDoor.PckWalkA Go.Proofs.YtamncdpeklbhlaaDoor.PckWalkC Go.Proofs.YtamncdpeklbhlaaDoor.PckWalkF
open Go.Proofs.YtamncdpeklbhlaaDoor.PckWalkD (badB restB_le part_lt)
open Go.Proofs.YtamncdpeklbhlaaDoor.PckWalkE (half_even half_odd upOk upV upR upB upV_le upR_le textOk textV textR textB)








end Go.Proofs.YtamncdpeklbhlaaDoor.PckWalkG
