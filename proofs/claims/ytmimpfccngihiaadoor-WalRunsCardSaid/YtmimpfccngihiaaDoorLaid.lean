/- From a row's list to the table's cells; a world that meets the list, for the witness. -/
import Derived.Test.YtmimpfccngihiaaDoorCrcBegun
import Derived.Test.YtmimpfccngihiaaDoorFrame
import Derived.Deep.DeepHandedRow
import Derived.Lib.LaidTab
namespace Go.Proofs.YtmimpfccngihiaaDoor.Laid
open Go.RowKit Go.Proofs.YtmimpfccngihiaaDoor.Kit Go.Proofs.YtmimpfccngihiaaDoor.Crc Go.Proofs.YtmimpfccngihiaaDoor.SumB

theorem gTab : Tryd.prog.globalNamed "tontine/crc.fours" = some 0 := by kernel_rfl
theorem gTabType : (Tryd.prog.globals[(0 : Nat)]?).map (·.type) = some 112 := by kernel_rfl
theorem cellsArr : Tryd.prog.cellsOf 112 = 16 := by kernel_rfl
theorem cellsElem : Tryd.prog.cellsOf 72 = 1 := by kernel_rfl

def ints : List Int := fours.map fun (n : Nat) => (n : Int)
theorem ints_get (i : Nat) (h : i < 16) : ints.getD i 0 = ((fours.getD i 0 : Nat) : Int) := by
  have : ∀ j : Fin 16, ints.getD j.1 0 = ((fours.getD j.1 0 : Nat) : Int) := by decide
  exact this ⟨i, h⟩
/-- What the row's list gives: the table's cells hold its sixteen numbers. -/
theorem tab_of_laid {W : World} (h : laidMetH Tryd.prog [("tontine/crc.fours", Rows.laid_tontine_crc_fours)] W) : Tab W := fun i hi => by
  have ht : Lib.TabIs Tryd.prog W "tontine/crc.fours" .u32 ints :=
    Lib.tabIs_of_head (rest := []) gTab gTabType Tryd.underlying112 Tryd.underlying72 cellsElem cellsArr h
  have := ht.cell gTab i (by show i < (ints).length; exact hi)
  rw [ints_get i hi] at this
  exact this
/-- A world for the witness: the settled one, the table holding what its initialiser lays. -/
noncomputable def laidWorld (os : Os) : World :=
  { World.holding Tryd.prog os ⟨#[], #[], []⟩ with heap := (World.holding Tryd.prog os ⟨#[], #[], []⟩).heap.modify 0 fun
      | .cells _ t frozen => .cells #[.int .u32 0, .int .u32 274646895, .int .u32 549293790, .int .u32 820201905, .int .u32 1098587580, .int .u32 1361435347, .int .u32 1640403810, .int .u32 1905808397, .int .u32 2197175160, .int .u32 2460548119, .int .u32 2722870694, .int .u32 2987750089, .int .u32 3280807620, .int .u32 3553878443, .int .u32 3811616794, .int .u32 4084100981] t frozen
      | o => o }
end Go.Proofs.YtmimpfccngihiaaDoor.Laid
