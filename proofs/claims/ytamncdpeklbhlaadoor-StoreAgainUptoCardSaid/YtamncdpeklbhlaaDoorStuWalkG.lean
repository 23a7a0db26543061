/- What the document's own decoding answers, walked; and that what each statement asks first is true. -/
import Derived.Test.YtamncdpeklbhlaaDoorStuWalkF
import Derived.Deep.QuietTactic
import Derived.BigQuiet
import Derived.Deep.RegionWith
import Derived.WalkSmall
namespace Go.Proofs.YtamncdpeklbhlaaDoor.StuWalkG
open Go.RowKit Go.Proofs.YtamncdpeklbhlaaDoor.Kit Go.Proofs.YtamncdpeklbhlaaDoor.Stuff Go.Proofs.YtamncdpeklbhlaaDoor.StuWalkA Go.Proofs.YtamncdpeklbhlaaDoor.StuWalkD Go.Proofs.YtamncdpeklbhlaaDoor.StuWalkF

theorem conv (W : World) (B : Nat) (A : Option Addr) (n c : Nat) (l : List UInt8) (h : Reads W B 1 A n (vals l)) : (convert 79 9 (.slice A n c)).run Tryd.prog W = .ok (.string ⟨l.toArray⟩) W :=
  run_string (P := Tryd.prog) 79 5 9 Tryd.underlying79 Tryd.underlying5 Tryd.underlying9 W B A n c l h


end Go.Proofs.YtamncdpeklbhlaaDoor.StuWalkG
