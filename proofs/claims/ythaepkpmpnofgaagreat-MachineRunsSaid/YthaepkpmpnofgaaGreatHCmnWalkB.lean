/- What the program's Encode answers, walked. No statement is proved here. -/
import Derived.Test.YthaepkpmpnofgaaGreatHCmnWalkA
import Derived.Test.YthaepkpmpnofgaaGreatGQ2
import Derived.Deep.RegionHeld3
set_option linter.unusedVariables false
set_option linter.unusedSimpArgs false
namespace Go.Proofs.YthaepkpmpnofgaaGreat.CmnWalkB
open Go.RowKit Go.Proofs.YthaepkpmpnofgaaGreat.Kit Go.Proofs.YthaepkpmpnofgaaGreat.Rdr Go.Proofs.YthaepkpmpnofgaaGreat.Stq Go.Proofs.YthaepkpmpnofgaaGreat.Pln Go.Proofs.YthaepkpmpnofgaaGreat.Wtr Go.Proofs.YthaepkpmpnofgaaGreat.Cmd Go.Proofs.YthaepkpmpnofgaaGreat.CmdAt Go.Proofs.YthaepkpmpnofgaaGreat.CmnWalkA
open Go.Proofs.YthaepkpmpnofgaaGreat.Num (num)
open Go.Proofs.YthaepkpmpnofgaaGreat.PckWalkB (text bit)
open Go.Proofs.YthaepkpmpnofgaaGreat.PckWalkH (str str_size str_append)

/-- What Encode answers. -/
def Enc (w : World) (s : ByteArray) (z : Int) (e : Ending) (w' : World) : Prop := e = .returned (.tuple #[.string s, .int .i64 z]) ∧ Below w.heap.size w w'
theorem empty_lit : ByteArray.empty = ⟨#[]⟩ := rfl
end Go.Proofs.YthaepkpmpnofgaaGreat.CmnWalkB
