/-
  No cell of these rows narrows 'for every input' (looked for: loops, veiled, ifaces, maps, wideKeys, modest, calm, conditions, laid).
  DERIVED. THE GIVEN ROWS OF THIS SEAT. 5 by the template 'for every input the law returns true; each argument reads behind the call as it read before'; 0 by the template 'total and deterministic' (their statements: YtojmbbldehbjfaaGreatTotals.lean).
  GIVEN WITH THE SEED: the statements are not yours to turn. If you find one false, say at which input.
  Laid BY PROGRAM, IN A SANDBOX (cutbox-rows.mjs): the forced cells as the released guide's own fill.sh prints them over the translation 0eb4ff3b835ec163… (all of the seat's roots in one cut). By AI agents, Wed Nov 11 2026. No macro, syntax, notation, axiom, sorry.
-/
import Derived.Test.YtojmbbldehbjfaaGreatChecked
import GoSem.Claim
import GoSem.ClaimJoined
import GoSem.ClaimMapViews
import Derived.JoinedTies
import Derived.KernelRfl
namespace Go.Proofs.YtojmbbldehbjfaaGreat
/- THE CELL 'sum', in the pinned program and in every row, IS THE sha256 OF THE DUMP (.gsa) THAT YtojmbbldehbjfaaGreatProg.lean LOADS. Nothing in Lean hashes anything: it is a label: what it is worth is what the hold of that sum in a sandbox is worth. -/
noncomputable def Tryz.pinned : Pinned := { name := "ytojmbbldehbjfaagreat", sum := "0eb4ff3b835ec1639d95c9327ca4951debc46ed1e71e7dd48fc6822bd868d73c", checked := Tryz.checked }
namespace Rows
def none {H : Type} : Left H := { results := [], args := [] }

/-- 'tontinelaw12.RaftRuns': WHATEVER THE INPUT: true; the input reads as it did. -/
def raftRunsSpec : ChangeSpec := { name := "raftRuns", fn := fun _ => fun
  | [d1, d2] => { results := [.lit (.bool true)], args := [d1, d2] }
  | _ => none }
def raftRunsRow : OpenClaim := { program := "ytojmbbldehbjfaagreat", sum := "0eb4ff3b835ec1639d95c9327ca4951debc46ed1e71e7dd48fc6822bd868d73c", func := "tontine/tontinelaw12.RaftRuns", spec := "raftRuns", unfollowed := true, recurses := true, apart := false }
def RaftRunsSaid : Prop := raftRunsRow.holds Tryz.pinned (OpenSpec.ofChange raftRunsSpec)

/-- ITS FALSE NEIGHBOUR: 'it returns false'. Refute it at one input. -/
def raftRunsWrong : ChangeSpec := { name := "raftRuns", fn := fun _ => fun
  | [d1, d2] => { results := [.lit (.bool false)], args := [d1, d2] }
  | _ => none }
def RaftRunsWrongFalsely : Prop := raftRunsRow.holds Tryz.pinned (OpenSpec.ofChange raftRunsWrong)

/-- 'tontinelaw12.RaftVotes': WHATEVER THE INPUT: true; the input reads as it did. -/
def raftVotesSpec : ChangeSpec := { name := "raftVotes", fn := fun _ => fun
  | [d1, d2] => { results := [.lit (.bool true)], args := [d1, d2] }
  | _ => none }
def raftVotesRow : OpenClaim := { program := "ytojmbbldehbjfaagreat", sum := "0eb4ff3b835ec1639d95c9327ca4951debc46ed1e71e7dd48fc6822bd868d73c", func := "tontine/tontinelaw12.RaftVotes", spec := "raftVotes", unfollowed := true, recurses := true, apart := false }
def RaftVotesSaid : Prop := raftVotesRow.holds Tryz.pinned (OpenSpec.ofChange raftVotesSpec)

/-- ITS FALSE NEIGHBOUR: 'it returns false'. Refute it at one input. -/
def raftVotesWrong : ChangeSpec := { name := "raftVotes", fn := fun _ => fun
  | [d1, d2] => { results := [.lit (.bool false)], args := [d1, d2] }
  | _ => none }
def RaftVotesWrongFalsely : Prop := raftVotesRow.holds Tryz.pinned (OpenSpec.ofChange raftVotesWrong)

/-- 'tontinelaw12.RaftElects': WHATEVER THE INPUT: true; the input reads as it did. -/
def raftElectsSpec : ChangeSpec := { name := "raftElects", fn := fun _ => fun
  | [d1, d2] => { results := [.lit (.bool true)], args := [d1, d2] }
  | _ => none }
def raftElectsRow : OpenClaim := { program := "ytojmbbldehbjfaagreat", sum := "0eb4ff3b835ec1639d95c9327ca4951debc46ed1e71e7dd48fc6822bd868d73c", func := "tontine/tontinelaw12.RaftElects", spec := "raftElects", unfollowed := true, recurses := true, apart := false }
def RaftElectsSaid : Prop := raftElectsRow.holds Tryz.pinned (OpenSpec.ofChange raftElectsSpec)

/-- ITS FALSE NEIGHBOUR: 'it returns false'. Refute it at one input. -/
def raftElectsWrong : ChangeSpec := { name := "raftElects", fn := fun _ => fun
  | [d1, d2] => { results := [.lit (.bool false)], args := [d1, d2] }
  | _ => none }
def RaftElectsWrongFalsely : Prop := raftElectsRow.holds Tryz.pinned (OpenSpec.ofChange raftElectsWrong)

/-- 'tontinelaw12.RaftNone': WHATEVER THE INPUT: true; the input reads as it did. -/
def raftNoneSpec : ChangeSpec := { name := "raftNone", fn := fun _ => fun
  | [d1, d2] => { results := [.lit (.bool true)], args := [d1, d2] }
  | _ => none }
def raftNoneRow : OpenClaim := { program := "ytojmbbldehbjfaagreat", sum := "0eb4ff3b835ec1639d95c9327ca4951debc46ed1e71e7dd48fc6822bd868d73c", func := "tontine/tontinelaw12.RaftNone", spec := "raftNone", unfollowed := true, recurses := true, apart := false }
def RaftNoneSaid : Prop := raftNoneRow.holds Tryz.pinned (OpenSpec.ofChange raftNoneSpec)

/-- ITS FALSE NEIGHBOUR: 'it returns false'. Refute it at one input. -/
def raftNoneWrong : ChangeSpec := { name := "raftNone", fn := fun _ => fun
  | [d1, d2] => { results := [.lit (.bool false)], args := [d1, d2] }
  | _ => none }
def RaftNoneWrongFalsely : Prop := raftNoneRow.holds Tryz.pinned (OpenSpec.ofChange raftNoneWrong)

/-- 'tontinelaw12.RaftAppends': WHATEVER THE INPUT: true; the input reads as it did. -/
def raftAppendsSpec : ChangeSpec := { name := "raftAppends", fn := fun _ => fun
  | [d1, d2] => { results := [.lit (.bool true)], args := [d1, d2] }
  | _ => none }
def raftAppendsRow : OpenClaim := { program := "ytojmbbldehbjfaagreat", sum := "0eb4ff3b835ec1639d95c9327ca4951debc46ed1e71e7dd48fc6822bd868d73c", func := "tontine/tontinelaw12.RaftAppends", spec := "raftAppends", unfollowed := true, recurses := true, apart := false }
def RaftAppendsSaid : Prop := raftAppendsRow.holds Tryz.pinned (OpenSpec.ofChange raftAppendsSpec)

/-- ITS FALSE NEIGHBOUR: 'it returns false'. Refute it at one input. -/
def raftAppendsWrong : ChangeSpec := { name := "raftAppends", fn := fun _ => fun
  | [d1, d2] => { results := [.lit (.bool false)], args := [d1, d2] }
  | _ => none }
def RaftAppendsWrongFalsely : Prop := raftAppendsRow.holds Tryz.pinned (OpenSpec.ofChange raftAppendsWrong)

/- THE SECOND FORM. 'bulk': how many values and letters a reading holds, each counted each time it is reached (what is shared counts as often as it is met; a slice's spare places count too). A statement '..UptoSaid' is the law's where the arguments, and the package variables that the reading takes, are together of bulk at most 1048576: NARROWER than '..Said'. Prove '..Said' where nothing that the law and all that it calls make is longer than what came in: it says more and counts as full. Else prove '..UptoSaid'. A law counts once. -/
mutual
def uptoBulk {H : Type} : DataW H → Nat
  | .lit (.string bytes) => bytes.length + 1
  | .lit _ => 1
  | .nil => 1
  | .ptr d => uptoBulk d + 1
  | .slice elems spare => uptoBulkAll elems + uptoBulkAll spare + 1
  | .agg parts => uptoBulkAll parts + 1
  | .iface _ d => uptoBulk d + 1
  | .map entries => uptoBulkEntries entries + 1
  | .held _ => 1
def uptoBulkAll {H : Type} : List (DataW H) → Nat
  | [] => 0
  | d :: r => uptoBulk d + uptoBulkAll r
def uptoBulkEntries {H : Type} : List (Lit × DataW H) → Nat
  | [] => 0
  | x :: r => uptoBulkEntry x + uptoBulkEntries r
def uptoBulkEntry {H : Type} : Lit × DataW H → Nat
  | (.string bytes, d) => bytes.length + uptoBulk d + 1
  | (_, d) => uptoBulk d + 1
 end
def uptoSmall : (H : Type) → List (DataW H) → Bool := fun _ ds => decide (uptoBulkAll ds ≤ 1048576)
def OpenSpec.upto (s : _root_.Go.ChangeSpec) : _root_.Go.OpenSpec := { _root_.Go.OpenSpec.ofChange s with cond := some uptoSmall }

/-- 'tontinelaw12.RaftRuns', WHERE WHAT IT READS IS OF BULK AT MOST 1048576: true; the input reads as it did. -/
def raftRunsUptoRow : OpenClaim := { program := "ytojmbbldehbjfaagreat", sum := "0eb4ff3b835ec1639d95c9327ca4951debc46ed1e71e7dd48fc6822bd868d73c", func := "tontine/tontinelaw12.RaftRuns", spec := "raftRuns", unfollowed := true, recurses := true, apart := false, narrowed := true }
def RaftRunsUptoSaid : Prop := raftRunsUptoRow.holds Tryz.pinned (OpenSpec.upto raftRunsSpec)

/-- 'tontinelaw12.RaftVotes', WHERE WHAT IT READS IS OF BULK AT MOST 1048576: true; the input reads as it did. -/
def raftVotesUptoRow : OpenClaim := { program := "ytojmbbldehbjfaagreat", sum := "0eb4ff3b835ec1639d95c9327ca4951debc46ed1e71e7dd48fc6822bd868d73c", func := "tontine/tontinelaw12.RaftVotes", spec := "raftVotes", unfollowed := true, recurses := true, apart := false, narrowed := true }
def RaftVotesUptoSaid : Prop := raftVotesUptoRow.holds Tryz.pinned (OpenSpec.upto raftVotesSpec)

/-- 'tontinelaw12.RaftElects', WHERE WHAT IT READS IS OF BULK AT MOST 1048576: true; the input reads as it did. -/
def raftElectsUptoRow : OpenClaim := { program := "ytojmbbldehbjfaagreat", sum := "0eb4ff3b835ec1639d95c9327ca4951debc46ed1e71e7dd48fc6822bd868d73c", func := "tontine/tontinelaw12.RaftElects", spec := "raftElects", unfollowed := true, recurses := true, apart := false, narrowed := true }
def RaftElectsUptoSaid : Prop := raftElectsUptoRow.holds Tryz.pinned (OpenSpec.upto raftElectsSpec)

/-- 'tontinelaw12.RaftNone', WHERE WHAT IT READS IS OF BULK AT MOST 1048576: true; the input reads as it did. -/
def raftNoneUptoRow : OpenClaim := { program := "ytojmbbldehbjfaagreat", sum := "0eb4ff3b835ec1639d95c9327ca4951debc46ed1e71e7dd48fc6822bd868d73c", func := "tontine/tontinelaw12.RaftNone", spec := "raftNone", unfollowed := true, recurses := true, apart := false, narrowed := true }
def RaftNoneUptoSaid : Prop := raftNoneUptoRow.holds Tryz.pinned (OpenSpec.upto raftNoneSpec)

/-- 'tontinelaw12.RaftAppends', WHERE WHAT IT READS IS OF BULK AT MOST 1048576: true; the input reads as it did. -/
def raftAppendsUptoRow : OpenClaim := { program := "ytojmbbldehbjfaagreat", sum := "0eb4ff3b835ec1639d95c9327ca4951debc46ed1e71e7dd48fc6822bd868d73c", func := "tontine/tontinelaw12.RaftAppends", spec := "raftAppends", unfollowed := true, recurses := true, apart := false, narrowed := true }
def RaftAppendsUptoSaid : Prop := raftAppendsUptoRow.holds Tryz.pinned (OpenSpec.upto raftAppendsSpec)

end Rows
end Go.Proofs.YtojmbbldehbjfaaGreat
