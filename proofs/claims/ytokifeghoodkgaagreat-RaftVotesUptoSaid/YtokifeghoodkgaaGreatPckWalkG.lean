/- What the document's own reader answers, walked: numbers with a sign, up to a limit, texts. -/
import Derived.Test.YtokifeghoodkgaaGreatPckWalkF
namespace Go.Proofs.YtokifeghoodkgaaGreat.PckWalkG
open Go.RowKit Go.Proofs.YtokifeghoodkgaaGreat.Kit Go.Proofs.YtokifeghoodkgaaGreat.Num Go.Proofs.YtokifeghoodkgaaGreat.State Go.Proofs.YtokifeghoodkgaaGreat.PckWalkA Go.Proofs.YtokifeghoodkgaaGreat.PckWalkC Go.Proofs.YtokifeghoodkgaaGreat.PckWalkF
open Go.Proofs.YtokifeghoodkgaaGreat.PckWalkD (badB restB_le part_lt)
open Go.Proofs.YtokifeghoodkgaaGreat.PckWalkE (half_even half_odd upOk upV upR upB upV_le upR_le textOk textV textR textB)

/-- A number that a reader gives, by a name. -/
theorem num_hid (q g : Nat) (s r : ByteArray) (bad b : Bool) (w : World) (h : M w q s bad) (hs : s.size ≤ 9223372036854775807) (hg : Hid (gotB s = g)) (hr : Hid (restB s = r)) (hb : Hid (badB s bad = b)) :
    Calls Tryz.prog 101 #[.pointer (some ⟨q, 0, none⟩)] w (TookM q r b (.int .u64 g) w) := by
  have := num_any q s bad w h hs
  rwa [hg.out, hr.out, hb.out] at this







end Go.Proofs.YtokifeghoodkgaaGreat.PckWalkG
