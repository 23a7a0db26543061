/-
  No cell of these rows narrows 'for every input' (looked for: loops, veiled, ifaces, maps, wideKeys, modest, calm, conditions, laid).
  DERIVED. THE GIVEN ROWS OF THIS SEAT. 6 by the template 'for every input the law returns true; each argument reads behind the call as it read before'; 0 by the template 'total and deterministic' (their statements: YtokgompjomeolaaTotals.lean).
  GIVEN WITH THE SEED: the statements are not yours to turn. If you find one false, say at which input.
  Laid BY PROGRAM, IN A SANDBOX (cutbox-rows.mjs): the forced cells as the released guide's own fill.sh prints them over the translation 952d1dfe9191a402… (all of the seat's roots in one cut). By AI agents, Wed Nov 11 2026. No macro, syntax, notation, axiom, sorry.
-/
import Derived.Test.YtokgompjomeolaaChecked
import GoSem.Claim
import GoSem.ClaimJoined
import GoSem.ClaimMapViews
import Derived.JoinedTies
import Derived.KernelRfl
namespace Go.Proofs.Ytokgompjomeolaa
/- THE CELL 'sum', in the pinned program and in every row, IS THE sha256 OF THE DUMP (.gsa) THAT YtokgompjomeolaaProg.lean LOADS. Nothing in Lean hashes anything: it is a label: what it is worth is what the hold of that sum in a sandbox is worth. -/
noncomputable def Try.pinned : Pinned := { name := "ytokgompjomeolaa", sum := "952d1dfe9191a402f4710a704401ad432cd568032d0a16426bc0ecd9e4b71694", checked := Try.checked }
namespace Rows
def none {H : Type} : Left H := { results := [], args := [] }

/-- 'tontinelaw01.StuffEncodes': WHATEVER THE INPUT: true; the input reads as it did. -/
def stuffEncodesSpec : ChangeSpec := { name := "stuffEncodes", fn := fun _ => fun
  | [d] => { results := [.lit (.bool true)], args := [d] }
  | _ => none }
def stuffEncodesRow : OpenClaim := { program := "ytokgompjomeolaa", sum := "952d1dfe9191a402f4710a704401ad432cd568032d0a16426bc0ecd9e4b71694", func := "tontine/tontinelaw01.StuffEncodes", spec := "stuffEncodes", inPlace := ["internal/bytealg.IndexByte"], apart := false }
def StuffEncodesSaid : Prop := stuffEncodesRow.holds Try.pinned (OpenSpec.ofChange stuffEncodesSpec)

/-- ITS FALSE NEIGHBOUR: 'it returns false'. Refute it at one input. -/
def stuffEncodesWrong : ChangeSpec := { name := "stuffEncodes", fn := fun _ => fun
  | [d] => { results := [.lit (.bool false)], args := [d] }
  | _ => none }
def StuffEncodesWrongFalsely : Prop := stuffEncodesRow.holds Try.pinned (OpenSpec.ofChange stuffEncodesWrong)

/-- 'tontinelaw01.StuffDecodes': WHATEVER THE INPUT: true; the input reads as it did. -/
def stuffDecodesSpec : ChangeSpec := { name := "stuffDecodes", fn := fun _ => fun
  | [d] => { results := [.lit (.bool true)], args := [d] }
  | _ => none }
def stuffDecodesRow : OpenClaim := { program := "ytokgompjomeolaa", sum := "952d1dfe9191a402f4710a704401ad432cd568032d0a16426bc0ecd9e4b71694", func := "tontine/tontinelaw01.StuffDecodes", spec := "stuffDecodes", inPlace := ["internal/bytealg.IndexByte"], apart := false }
def StuffDecodesSaid : Prop := stuffDecodesRow.holds Try.pinned (OpenSpec.ofChange stuffDecodesSpec)

/-- ITS FALSE NEIGHBOUR: 'it returns false'. Refute it at one input. -/
def stuffDecodesWrong : ChangeSpec := { name := "stuffDecodes", fn := fun _ => fun
  | [d] => { results := [.lit (.bool false)], args := [d] }
  | _ => none }
def StuffDecodesWrongFalsely : Prop := stuffDecodesRow.holds Try.pinned (OpenSpec.ofChange stuffDecodesWrong)

/-- 'tontinelaw01.StuffBack': WHATEVER THE INPUT: true; the input reads as it did. -/
def stuffBackSpec : ChangeSpec := { name := "stuffBack", fn := fun _ => fun
  | [d] => { results := [.lit (.bool true)], args := [d] }
  | _ => none }
def stuffBackRow : OpenClaim := { program := "ytokgompjomeolaa", sum := "952d1dfe9191a402f4710a704401ad432cd568032d0a16426bc0ecd9e4b71694", func := "tontine/tontinelaw01.StuffBack", spec := "stuffBack", inPlace := ["internal/bytealg.IndexByte"], apart := false }
def StuffBackSaid : Prop := stuffBackRow.holds Try.pinned (OpenSpec.ofChange stuffBackSpec)

/-- ITS FALSE NEIGHBOUR: 'it returns false'. Refute it at one input. -/
def stuffBackWrong : ChangeSpec := { name := "stuffBack", fn := fun _ => fun
  | [d] => { results := [.lit (.bool false)], args := [d] }
  | _ => none }
def StuffBackWrongFalsely : Prop := stuffBackRow.holds Try.pinned (OpenSpec.ofChange stuffBackWrong)

/-- 'tontinelaw01.StuffOne': WHATEVER THE INPUT: true; the input reads as it did. -/
def stuffOneSpec : ChangeSpec := { name := "stuffOne", fn := fun _ => fun
  | [d] => { results := [.lit (.bool true)], args := [d] }
  | _ => none }
def stuffOneRow : OpenClaim := { program := "ytokgompjomeolaa", sum := "952d1dfe9191a402f4710a704401ad432cd568032d0a16426bc0ecd9e4b71694", func := "tontine/tontinelaw01.StuffOne", spec := "stuffOne", inPlace := ["internal/bytealg.IndexByte"], apart := false }
def StuffOneSaid : Prop := stuffOneRow.holds Try.pinned (OpenSpec.ofChange stuffOneSpec)

/-- ITS FALSE NEIGHBOUR: 'it returns false'. Refute it at one input. -/
def stuffOneWrong : ChangeSpec := { name := "stuffOne", fn := fun _ => fun
  | [d] => { results := [.lit (.bool false)], args := [d] }
  | _ => none }
def StuffOneWrongFalsely : Prop := stuffOneRow.holds Try.pinned (OpenSpec.ofChange stuffOneWrong)

/-- 'tontinelaw01.StuffRuns': WHATEVER THE INPUT: true; the input reads as it did. -/
def stuffRunsSpec : ChangeSpec := { name := "stuffRuns", fn := fun _ => fun
  | [d1, d2, d3] => { results := [.lit (.bool true)], args := [d1, d2, d3] }
  | _ => none }
def stuffRunsRow : OpenClaim := { program := "ytokgompjomeolaa", sum := "952d1dfe9191a402f4710a704401ad432cd568032d0a16426bc0ecd9e4b71694", func := "tontine/tontinelaw01.StuffRuns", spec := "stuffRuns", inPlace := ["internal/bytealg.IndexByte"], apart := false }
def StuffRunsSaid : Prop := stuffRunsRow.holds Try.pinned (OpenSpec.ofChange stuffRunsSpec)

/-- ITS FALSE NEIGHBOUR: 'it returns false'. Refute it at one input. -/
def stuffRunsWrong : ChangeSpec := { name := "stuffRuns", fn := fun _ => fun
  | [d1, d2, d3] => { results := [.lit (.bool false)], args := [d1, d2, d3] }
  | _ => none }
def StuffRunsWrongFalsely : Prop := stuffRunsRow.holds Try.pinned (OpenSpec.ofChange stuffRunsWrong)

/-- 'tontinelaw01.StuffJoins': WHATEVER THE INPUT: true; the input reads as it did. -/
def stuffJoinsSpec : ChangeSpec := { name := "stuffJoins", fn := fun _ => fun
  | [d1, d2] => { results := [.lit (.bool true)], args := [d1, d2] }
  | _ => none }
def stuffJoinsRow : OpenClaim := { program := "ytokgompjomeolaa", sum := "952d1dfe9191a402f4710a704401ad432cd568032d0a16426bc0ecd9e4b71694", func := "tontine/tontinelaw01.StuffJoins", spec := "stuffJoins", inPlace := ["internal/bytealg.IndexByte"], apart := false }
def StuffJoinsSaid : Prop := stuffJoinsRow.holds Try.pinned (OpenSpec.ofChange stuffJoinsSpec)

/-- ITS FALSE NEIGHBOUR: 'it returns false'. Refute it at one input. -/
def stuffJoinsWrong : ChangeSpec := { name := "stuffJoins", fn := fun _ => fun
  | [d1, d2] => { results := [.lit (.bool false)], args := [d1, d2] }
  | _ => none }
def StuffJoinsWrongFalsely : Prop := stuffJoinsRow.holds Try.pinned (OpenSpec.ofChange stuffJoinsWrong)

/- THE SECOND FORM. 'bulk': how many values and letters a reading holds, each counted each time it is reached (what is shared counts as often as it is met; a slice's spare places count too). A statement '..UptoSaid' is the law's where the arguments, and the package variables that the reading takes, are together of bulk at most 1048576: NARROWER than '..Said'. Prove '..Said' where nothing that the law and all that it calls make is longer than what came in: it says more and counts as full. Else prove '..UptoSaid'. A law counts once. -/
mutual
def uptoBulk {H : Type} : DataW H → Nat
  | .lit (.string bytes) => bytes.length + 1
  | .lit _ => 1
  | .nil => 1
  | .ptr d => uptoBulk d + 1
  | .slice elems spare => uptoBulkAll elems + uptoBulkAll spare + 1
  | .agg parts => uptoBulkAll parts + 1
  | .iface _ d => uptoBulk d + 1
  | .map entries => uptoBulkEntries entries + 1
  | .held _ => 1
def uptoBulkAll {H : Type} : List (DataW H) → Nat
  | [] => 0
  | d :: r => uptoBulk d + uptoBulkAll r
def uptoBulkEntries {H : Type} : List (Lit × DataW H) → Nat
  | [] => 0
  | x :: r => uptoBulkEntry x + uptoBulkEntries r
def uptoBulkEntry {H : Type} : Lit × DataW H → Nat
  | (.string bytes, d) => bytes.length + uptoBulk d + 1
  | (_, d) => uptoBulk d + 1
 end
def uptoSmall : (H : Type) → List (DataW H) → Bool := fun _ ds => decide (uptoBulkAll ds ≤ 1048576)
def OpenSpec.upto (s : _root_.Go.ChangeSpec) : _root_.Go.OpenSpec := { _root_.Go.OpenSpec.ofChange s with cond := some uptoSmall }

/-- 'tontinelaw01.StuffEncodes', WHERE WHAT IT READS IS OF BULK AT MOST 1048576: true; the input reads as it did. -/
def stuffEncodesUptoRow : OpenClaim := { program := "ytokgompjomeolaa", sum := "952d1dfe9191a402f4710a704401ad432cd568032d0a16426bc0ecd9e4b71694", func := "tontine/tontinelaw01.StuffEncodes", spec := "stuffEncodes", inPlace := ["internal/bytealg.IndexByte"], apart := false, narrowed := true }
def StuffEncodesUptoSaid : Prop := stuffEncodesUptoRow.holds Try.pinned (OpenSpec.upto stuffEncodesSpec)

/-- 'tontinelaw01.StuffDecodes', WHERE WHAT IT READS IS OF BULK AT MOST 1048576: true; the input reads as it did. -/
def stuffDecodesUptoRow : OpenClaim := { program := "ytokgompjomeolaa", sum := "952d1dfe9191a402f4710a704401ad432cd568032d0a16426bc0ecd9e4b71694", func := "tontine/tontinelaw01.StuffDecodes", spec := "stuffDecodes", inPlace := ["internal/bytealg.IndexByte"], apart := false, narrowed := true }
def StuffDecodesUptoSaid : Prop := stuffDecodesUptoRow.holds Try.pinned (OpenSpec.upto stuffDecodesSpec)

/-- 'tontinelaw01.StuffBack', WHERE WHAT IT READS IS OF BULK AT MOST 1048576: true; the input reads as it did. -/
def stuffBackUptoRow : OpenClaim := { program := "ytokgompjomeolaa", sum := "952d1dfe9191a402f4710a704401ad432cd568032d0a16426bc0ecd9e4b71694", func := "tontine/tontinelaw01.StuffBack", spec := "stuffBack", inPlace := ["internal/bytealg.IndexByte"], apart := false, narrowed := true }
def StuffBackUptoSaid : Prop := stuffBackUptoRow.holds Try.pinned (OpenSpec.upto stuffBackSpec)

/-- 'tontinelaw01.StuffOne', WHERE WHAT IT READS IS OF BULK AT MOST 1048576: true; the input reads as it did. -/
def stuffOneUptoRow : OpenClaim := { program := "ytokgompjomeolaa", sum := "952d1dfe9191a402f4710a704401ad432cd568032d0a16426bc0ecd9e4b71694", func := "tontine/tontinelaw01.StuffOne", spec := "stuffOne", inPlace := ["internal/bytealg.IndexByte"], apart := false, narrowed := true }
def StuffOneUptoSaid : Prop := stuffOneUptoRow.holds Try.pinned (OpenSpec.upto stuffOneSpec)

/-- 'tontinelaw01.StuffRuns', WHERE WHAT IT READS IS OF BULK AT MOST 1048576: true; the input reads as it did. -/
def stuffRunsUptoRow : OpenClaim := { program := "ytokgompjomeolaa", sum := "952d1dfe9191a402f4710a704401ad432cd568032d0a16426bc0ecd9e4b71694", func := "tontine/tontinelaw01.StuffRuns", spec := "stuffRuns", inPlace := ["internal/bytealg.IndexByte"], apart := false, narrowed := true }
def StuffRunsUptoSaid : Prop := stuffRunsUptoRow.holds Try.pinned (OpenSpec.upto stuffRunsSpec)

/-- 'tontinelaw01.StuffJoins', WHERE WHAT IT READS IS OF BULK AT MOST 1048576: true; the input reads as it did. -/
def stuffJoinsUptoRow : OpenClaim := { program := "ytokgompjomeolaa", sum := "952d1dfe9191a402f4710a704401ad432cd568032d0a16426bc0ecd9e4b71694", func := "tontine/tontinelaw01.StuffJoins", spec := "stuffJoins", inPlace := ["internal/bytealg.IndexByte"], apart := false, narrowed := true }
def StuffJoinsUptoSaid : Prop := stuffJoinsUptoRow.holds Try.pinned (OpenSpec.upto stuffJoinsSpec)

end Rows
end Go.Proofs.Ytokgompjomeolaa
