/- What the document's own first frame is, walked. -/
import Derived.Test.YtamncdpeklbhlaaDoorFrB
import Derived.Deep.RegionHeld3
import Derived.Deep.RegionLaw
set_option linter.unusedVariables false
set_option linter.unusedSimpArgs false
namespace Go.Proofs.YtamncdpeklbhlaaDoor.FrC
open Go.RowKit Go.Proofs.YtamncdpeklbhlaaDoor.Kit Go.Proofs.YtamncdpeklbhlaaDoor.Blocks Go.Proofs.YtamncdpeklbhlaaDoor.Stuff Go.Proofs.YtamncdpeklbhlaaDoor.Crc Go.Proofs.YtamncdpeklbhlaaDoor.SumA Go.Proofs.YtamncdpeklbhlaaDoor.SumB Go.Proofs.YtamncdpeklbhlaaDoor.Wal Go.Proofs.YtamncdpeklbhlaaDoor.StuWalkA Go.Proofs.YtamncdpeklbhlaaDoor.StuWalkD Go.Proofs.YtamncdpeklbhlaaDoor.StuWalkG Go.Proofs.YtamncdpeklbhlaaDoor.FrA Go.Proofs.YtamncdpeklbhlaaDoor.FrB
open Go.Proofs.YtamncdpeklbhlaaDoor.DskWalkC (str)

/-- What the document's first leaves. -/
def Fst (w : World) (o : Option (List UInt8)) (n : Nat) (e : Ending) (w' : World) : Prop :=
  match o with
  | some x => e = .returned (.tuple #[.string (str x), .int .i64 ((n + 1 : Nat) : Int)]) ∧ Below w.heap.size w w'
  | none => e = .returned (.tuple #[.string (str []), .int .i64 0]) ∧ Below w.heap.size w w'

theorem size_list (s : ByteArray) : s.data.toList.length = s.size := rfl
theorem get_list (s : ByteArray) (j : Nat) (h : j < s.size) : s.data.toList[j]'h = s[j] := rfl
theorem byte_ne {c : UInt8} (h : c ≠ 0) : ((c.toNat : Int) != 0) = true := bne_iff_ne.2 fun e => h (UInt8.toNat_inj.1 (by simpa using e))
theorem byte_eq {c : UInt8} (h : c = 0) : ((c.toNat : Int) != 0) = false := by subst h; rfl


end Go.Proofs.YtamncdpeklbhlaaDoor.FrC
