/-
  No cell of these rows narrows 'for every input' (looked for: loops, veiled, ifaces, maps, wideKeys, modest, calm, conditions, laid).
  DERIVED. THE GIVEN ROWS OF THIS SEAT. 6 by the template 'for every input the law returns true; each argument reads behind the call as it read before'; 0 by the template 'total and deterministic' (their statements: YtopoecdcckhpiaaTotals.lean).
  GIVEN WITH THE SEED: the statements are not yours to turn. If you find one false, say at which input.
  Laid BY PROGRAM, IN A SANDBOX (cutbox-rows.mjs): the forced cells as the released guide's own fill.sh prints them over the translation 1091caa44b6665ca… (all of the seat's roots in one cut). By AI agents, Wed Nov 11 2026. No macro, syntax, notation, axiom, sorry.
-/
import Derived.Test.YtopoecdcckhpiaaChecked
import GoSem.Claim
import GoSem.ClaimJoined
import GoSem.ClaimMapViews
import Derived.JoinedTies
import Derived.KernelRfl
namespace Go.Proofs.Ytopoecdcckhpiaa
/- THE CELL 'sum', in the pinned program and in every row, IS THE sha256 OF THE DUMP (.gsa) THAT YtopoecdcckhpiaaProg.lean LOADS. Nothing in Lean hashes anything: it is a label: what it is worth is what the hold of that sum in a sandbox is worth. -/
noncomputable def Try.pinned : Pinned := { name := "ytopoecdcckhpiaa", sum := "1091caa44b6665ca64c055305c85f58bfad29bfe36955b69b36249b0292f6955", checked := Try.checked }
namespace Rows
def none {H : Type} : Left H := { results := [], args := [] }

/-- 'tontinelaw06.QuorumSets': WHATEVER THE INPUT: true; the input reads as it did. -/
def quorumSetsSpec : ChangeSpec := { name := "quorumSets", fn := fun _ => fun
  | [d1, d2, d3] => { results := [.lit (.bool true)], args := [d1, d2, d3] }
  | _ => none }
def quorumSetsRow : OpenClaim := { program := "ytopoecdcckhpiaa", sum := "1091caa44b6665ca64c055305c85f58bfad29bfe36955b69b36249b0292f6955", func := "tontine/tontinelaw06.QuorumSets", spec := "quorumSets", unfollowed := true, recurses := true, apart := false }
def QuorumSetsSaid : Prop := quorumSetsRow.holds Try.pinned (OpenSpec.ofChange quorumSetsSpec)

/-- ITS FALSE NEIGHBOUR: 'it returns false'. Refute it at one input. -/
def quorumSetsWrong : ChangeSpec := { name := "quorumSets", fn := fun _ => fun
  | [d1, d2, d3] => { results := [.lit (.bool false)], args := [d1, d2, d3] }
  | _ => none }
def QuorumSetsWrongFalsely : Prop := quorumSetsRow.holds Try.pinned (OpenSpec.ofChange quorumSetsWrong)

/-- 'tontinelaw06.QuorumReaches': WHATEVER THE INPUT: true; the input reads as it did. -/
def quorumReachesSpec : ChangeSpec := { name := "quorumReaches", fn := fun _ => fun
  | [d1, d2] => { results := [.lit (.bool true)], args := [d1, d2] }
  | _ => none }
def quorumReachesRow : OpenClaim := { program := "ytopoecdcckhpiaa", sum := "1091caa44b6665ca64c055305c85f58bfad29bfe36955b69b36249b0292f6955", func := "tontine/tontinelaw06.QuorumReaches", spec := "quorumReaches", unfollowed := true, recurses := true, apart := false }
def QuorumReachesSaid : Prop := quorumReachesRow.holds Try.pinned (OpenSpec.ofChange quorumReachesSpec)

/-- ITS FALSE NEIGHBOUR: 'it returns false'. Refute it at one input. -/
def quorumReachesWrong : ChangeSpec := { name := "quorumReaches", fn := fun _ => fun
  | [d1, d2] => { results := [.lit (.bool false)], args := [d1, d2] }
  | _ => none }
def QuorumReachesWrongFalsely : Prop := quorumReachesRow.holds Try.pinned (OpenSpec.ofChange quorumReachesWrong)

/-- 'tontinelaw06.QuorumChanges': WHATEVER THE INPUT: true; the input reads as it did. -/
def quorumChangesSpec : ChangeSpec := { name := "quorumChanges", fn := fun _ => fun
  | [d1, d2, d3] => { results := [.lit (.bool true)], args := [d1, d2, d3] }
  | _ => none }
def quorumChangesRow : OpenClaim := { program := "ytopoecdcckhpiaa", sum := "1091caa44b6665ca64c055305c85f58bfad29bfe36955b69b36249b0292f6955", func := "tontine/tontinelaw06.QuorumChanges", spec := "quorumChanges", unfollowed := true, recurses := true, apart := false }
def QuorumChangesSaid : Prop := quorumChangesRow.holds Try.pinned (OpenSpec.ofChange quorumChangesSpec)

/-- ITS FALSE NEIGHBOUR: 'it returns false'. Refute it at one input. -/
def quorumChangesWrong : ChangeSpec := { name := "quorumChanges", fn := fun _ => fun
  | [d1, d2, d3] => { results := [.lit (.bool false)], args := [d1, d2, d3] }
  | _ => none }
def QuorumChangesWrongFalsely : Prop := quorumChangesRow.holds Try.pinned (OpenSpec.ofChange quorumChangesWrong)

/-- 'tontinelaw06.QuorumMeets': WHATEVER THE INPUT: true; the input reads as it did. -/
def quorumMeetsSpec : ChangeSpec := { name := "quorumMeets", fn := fun _ => fun
  | [d1, d2, d3] => { results := [.lit (.bool true)], args := [d1, d2, d3] }
  | _ => none }
def quorumMeetsRow : OpenClaim := { program := "ytopoecdcckhpiaa", sum := "1091caa44b6665ca64c055305c85f58bfad29bfe36955b69b36249b0292f6955", func := "tontine/tontinelaw06.QuorumMeets", spec := "quorumMeets", unfollowed := true, recurses := true, apart := false }
def QuorumMeetsSaid : Prop := quorumMeetsRow.holds Try.pinned (OpenSpec.ofChange quorumMeetsSpec)

/-- ITS FALSE NEIGHBOUR: 'it returns false'. Refute it at one input. -/
def quorumMeetsWrong : ChangeSpec := { name := "quorumMeets", fn := fun _ => fun
  | [d1, d2, d3] => { results := [.lit (.bool false)], args := [d1, d2, d3] }
  | _ => none }
def QuorumMeetsWrongFalsely : Prop := quorumMeetsRow.holds Try.pinned (OpenSpec.ofChange quorumMeetsWrong)

/-- 'tontinelaw06.QuorumSteps': WHATEVER THE INPUT: true; the input reads as it did. -/
def quorumStepsSpec : ChangeSpec := { name := "quorumSteps", fn := fun _ => fun
  | [d1, d2, d3] => { results := [.lit (.bool true)], args := [d1, d2, d3] }
  | _ => none }
def quorumStepsRow : OpenClaim := { program := "ytopoecdcckhpiaa", sum := "1091caa44b6665ca64c055305c85f58bfad29bfe36955b69b36249b0292f6955", func := "tontine/tontinelaw06.QuorumSteps", spec := "quorumSteps", unfollowed := true, recurses := true, apart := false }
def QuorumStepsSaid : Prop := quorumStepsRow.holds Try.pinned (OpenSpec.ofChange quorumStepsSpec)

/-- ITS FALSE NEIGHBOUR: 'it returns false'. Refute it at one input. -/
def quorumStepsWrong : ChangeSpec := { name := "quorumSteps", fn := fun _ => fun
  | [d1, d2, d3] => { results := [.lit (.bool false)], args := [d1, d2, d3] }
  | _ => none }
def QuorumStepsWrongFalsely : Prop := quorumStepsRow.holds Try.pinned (OpenSpec.ofChange quorumStepsWrong)

/-- 'tontinelaw06.QuorumHalves': WHATEVER THE INPUT: true; the input reads as it did. -/
def quorumHalvesSpec : ChangeSpec := { name := "quorumHalves", fn := fun _ => fun
  | [d1, d2] => { results := [.lit (.bool true)], args := [d1, d2] }
  | _ => none }
def quorumHalvesRow : OpenClaim := { program := "ytopoecdcckhpiaa", sum := "1091caa44b6665ca64c055305c85f58bfad29bfe36955b69b36249b0292f6955", func := "tontine/tontinelaw06.QuorumHalves", spec := "quorumHalves", unfollowed := true, recurses := true, apart := false }
def QuorumHalvesSaid : Prop := quorumHalvesRow.holds Try.pinned (OpenSpec.ofChange quorumHalvesSpec)

/-- ITS FALSE NEIGHBOUR: 'it returns false'. Refute it at one input. -/
def quorumHalvesWrong : ChangeSpec := { name := "quorumHalves", fn := fun _ => fun
  | [d1, d2] => { results := [.lit (.bool false)], args := [d1, d2] }
  | _ => none }
def QuorumHalvesWrongFalsely : Prop := quorumHalvesRow.holds Try.pinned (OpenSpec.ofChange quorumHalvesWrong)

/- THE SECOND FORM. 'bulk': how many values and letters a reading holds, each counted each time it is reached (what is shared counts as often as it is met; a slice's spare places count too). A statement '..UptoSaid' is the law's where the arguments, and the package variables that the reading takes, are together of bulk at most 1048576: NARROWER than '..Said'. Prove '..Said' where nothing that the law and all that it calls make is longer than what came in: it says more and counts as full. Else prove '..UptoSaid'. A law counts once. -/
mutual
def uptoBulk {H : Type} : DataW H → Nat
  | .lit (.string bytes) => bytes.length + 1
  | .lit _ => 1
  | .nil => 1
  | .ptr d => uptoBulk d + 1
  | .slice elems spare => uptoBulkAll elems + uptoBulkAll spare + 1
  | .agg parts => uptoBulkAll parts + 1
  | .iface _ d => uptoBulk d + 1
  | .map entries => uptoBulkEntries entries + 1
  | .held _ => 1
def uptoBulkAll {H : Type} : List (DataW H) → Nat
  | [] => 0
  | d :: r => uptoBulk d + uptoBulkAll r
def uptoBulkEntries {H : Type} : List (Lit × DataW H) → Nat
  | [] => 0
  | x :: r => uptoBulkEntry x + uptoBulkEntries r
def uptoBulkEntry {H : Type} : Lit × DataW H → Nat
  | (.string bytes, d) => bytes.length + uptoBulk d + 1
  | (_, d) => uptoBulk d + 1
 end
def uptoSmall : (H : Type) → List (DataW H) → Bool := fun _ ds => decide (uptoBulkAll ds ≤ 1048576)
def OpenSpec.upto (s : _root_.Go.ChangeSpec) : _root_.Go.OpenSpec := { _root_.Go.OpenSpec.ofChange s with cond := some uptoSmall }

/-- 'tontinelaw06.QuorumSets', WHERE WHAT IT READS IS OF BULK AT MOST 1048576: true; the input reads as it did. -/
def quorumSetsUptoRow : OpenClaim := { program := "ytopoecdcckhpiaa", sum := "1091caa44b6665ca64c055305c85f58bfad29bfe36955b69b36249b0292f6955", func := "tontine/tontinelaw06.QuorumSets", spec := "quorumSets", unfollowed := true, recurses := true, apart := false, narrowed := true }
def QuorumSetsUptoSaid : Prop := quorumSetsUptoRow.holds Try.pinned (OpenSpec.upto quorumSetsSpec)

/-- 'tontinelaw06.QuorumReaches', WHERE WHAT IT READS IS OF BULK AT MOST 1048576: true; the input reads as it did. -/
def quorumReachesUptoRow : OpenClaim := { program := "ytopoecdcckhpiaa", sum := "1091caa44b6665ca64c055305c85f58bfad29bfe36955b69b36249b0292f6955", func := "tontine/tontinelaw06.QuorumReaches", spec := "quorumReaches", unfollowed := true, recurses := true, apart := false, narrowed := true }
def QuorumReachesUptoSaid : Prop := quorumReachesUptoRow.holds Try.pinned (OpenSpec.upto quorumReachesSpec)

/-- 'tontinelaw06.QuorumChanges', WHERE WHAT IT READS IS OF BULK AT MOST 1048576: true; the input reads as it did. -/
def quorumChangesUptoRow : OpenClaim := { program := "ytopoecdcckhpiaa", sum := "1091caa44b6665ca64c055305c85f58bfad29bfe36955b69b36249b0292f6955", func := "tontine/tontinelaw06.QuorumChanges", spec := "quorumChanges", unfollowed := true, recurses := true, apart := false, narrowed := true }
def QuorumChangesUptoSaid : Prop := quorumChangesUptoRow.holds Try.pinned (OpenSpec.upto quorumChangesSpec)

/-- 'tontinelaw06.QuorumMeets', WHERE WHAT IT READS IS OF BULK AT MOST 1048576: true; the input reads as it did. -/
def quorumMeetsUptoRow : OpenClaim := { program := "ytopoecdcckhpiaa", sum := "1091caa44b6665ca64c055305c85f58bfad29bfe36955b69b36249b0292f6955", func := "tontine/tontinelaw06.QuorumMeets", spec := "quorumMeets", unfollowed := true, recurses := true, apart := false, narrowed := true }
def QuorumMeetsUptoSaid : Prop := quorumMeetsUptoRow.holds Try.pinned (OpenSpec.upto quorumMeetsSpec)

/-- 'tontinelaw06.QuorumSteps', WHERE WHAT IT READS IS OF BULK AT MOST 1048576: true; the input reads as it did. -/
def quorumStepsUptoRow : OpenClaim := { program := "ytopoecdcckhpiaa", sum := "1091caa44b6665ca64c055305c85f58bfad29bfe36955b69b36249b0292f6955", func := "tontine/tontinelaw06.QuorumSteps", spec := "quorumSteps", unfollowed := true, recurses := true, apart := false, narrowed := true }
def QuorumStepsUptoSaid : Prop := quorumStepsUptoRow.holds Try.pinned (OpenSpec.upto quorumStepsSpec)

/-- 'tontinelaw06.QuorumHalves', WHERE WHAT IT READS IS OF BULK AT MOST 1048576: true; the input reads as it did. -/
def quorumHalvesUptoRow : OpenClaim := { program := "ytopoecdcckhpiaa", sum := "1091caa44b6665ca64c055305c85f58bfad29bfe36955b69b36249b0292f6955", func := "tontine/tontinelaw06.QuorumHalves", spec := "quorumHalves", unfollowed := true, recurses := true, apart := false, narrowed := true }
def QuorumHalvesUptoSaid : Prop := quorumHalvesUptoRow.holds Try.pinned (OpenSpec.upto quorumHalvesSpec)

end Rows
end Go.Proofs.Ytopoecdcckhpiaa
