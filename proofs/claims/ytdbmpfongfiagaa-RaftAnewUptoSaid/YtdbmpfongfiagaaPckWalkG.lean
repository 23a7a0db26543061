/- What the document's own reader answers, walked: numbers with a sign, up to a limit, texts. -/
import Derived.Test.YtdbmpfongfiagaaPckWalkF
namespace Go.Proofs.Ytdbmpfongfiagaa.PckWalkG
open Go.RowKit Go.Proofs.Ytdbmpfongfiagaa.Kit Go.Proofs.Ytdbmpfongfiagaa.Num Go.Proofs.Ytdbmpfongfiagaa.State Go.Proofs.Ytdbmpfongfiagaa.PckWalkA Go.Proofs.Ytdbmpfongfiagaa.PckWalkC Go.Proofs.Ytdbmpfongfiagaa.PckWalkF
open Go.Proofs.Ytdbmpfongfiagaa.PckWalkD (badB restB_le part_lt)
open Go.Proofs.Ytdbmpfongfiagaa.PckWalkE (half_even half_odd upOk upV upR upB upV_le upR_le textOk textV textR textB)








end Go.Proofs.Ytdbmpfongfiagaa.PckWalkG
