/- What the document's own reader answers, walked: numbers with a sign, up to a limit, texts. -/
import Derived.Test.YtokifeghoodkgaaPckWalkF
namespace Go.Proofs.Ytokifeghoodkgaa.PckWalkG
open Go.RowKit Go.Proofs.Ytokifeghoodkgaa.Kit Go.Proofs.Ytokifeghoodkgaa.Num Go.Proofs.Ytokifeghoodkgaa.State Go.Proofs.Ytokifeghoodkgaa.PckWalkA Go.Proofs.Ytokifeghoodkgaa.PckWalkC Go.Proofs.Ytokifeghoodkgaa.PckWalkF
open Go.Proofs.Ytokifeghoodkgaa.PckWalkD (badB restB_le part_lt)
open Go.Proofs.Ytokifeghoodkgaa.PckWalkE (half_even half_odd upOk upV upR upB upV_le upR_le textOk textV textR textB)








end Go.Proofs.Ytokifeghoodkgaa.PckWalkG
