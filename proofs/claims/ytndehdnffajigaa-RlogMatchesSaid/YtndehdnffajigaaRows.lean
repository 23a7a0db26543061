/-
  No cell of these rows narrows 'for every input' (looked for: loops, veiled, ifaces, maps, wideKeys, modest, calm, conditions, laid).
  DERIVED. THE GIVEN ROWS OF THIS SEAT. 6 by the template 'for every input the law returns true; each argument reads behind the call as it read before'; 0 by the template 'total and deterministic' (their statements: YtndehdnffajigaaTotals.lean).
  GIVEN WITH THE SEED: the statements are not yours to turn. If you find one false, say at which input.
  Laid BY PROGRAM, IN A SANDBOX (cutbox-rows.mjs): the forced cells as the released guide's own fill.sh prints them over the translation 7684248afda1c564… (all of the seat's roots in one cut). By AI agents, Wed Nov 11 2026. No macro, syntax, notation, axiom, sorry.
-/
import Derived.Test.YtndehdnffajigaaChecked
import GoSem.Claim
import GoSem.ClaimJoined
import GoSem.ClaimMapViews
import Derived.JoinedTies
import Derived.KernelRfl
namespace Go.Proofs.Ytndehdnffajigaa
/- THE CELL 'sum', in the pinned program and in every row, IS THE sha256 OF THE DUMP (.gsa) THAT YtndehdnffajigaaProg.lean LOADS. Nothing in Lean hashes anything: it is a label: what it is worth is what the hold of that sum in a sandbox is worth. -/
noncomputable def Try.pinned : Pinned := { name := "ytndehdnffajigaa", sum := "7684248afda1c56426a50a26300c8c4bd2565bbf544d74a5b372b0cea0265c13", checked := Try.checked }
namespace Rows
def none {H : Type} : Left H := { results := [], args := [] }

/-- 'tontinelaw07.RlogRuns': WHATEVER THE INPUT: true; the input reads as it did. -/
def rlogRunsSpec : ChangeSpec := { name := "rlogRuns", fn := fun _ => fun
  | [d1, d2, d3] => { results := [.lit (.bool true)], args := [d1, d2, d3] }
  | _ => none }
def rlogRunsRow : OpenClaim := { program := "ytndehdnffajigaa", sum := "7684248afda1c56426a50a26300c8c4bd2565bbf544d74a5b372b0cea0265c13", func := "tontine/tontinelaw07.RlogRuns", spec := "rlogRuns", unfollowed := true, recurses := true, apart := false }
def RlogRunsSaid : Prop := rlogRunsRow.holds Try.pinned (OpenSpec.ofChange rlogRunsSpec)

/-- ITS FALSE NEIGHBOUR: 'it returns false'. Refute it at one input. -/
def rlogRunsWrong : ChangeSpec := { name := "rlogRuns", fn := fun _ => fun
  | [d1, d2, d3] => { results := [.lit (.bool false)], args := [d1, d2, d3] }
  | _ => none }
def RlogRunsWrongFalsely : Prop := rlogRunsRow.holds Try.pinned (OpenSpec.ofChange rlogRunsWrong)

/-- 'tontinelaw07.RlogStays': WHATEVER THE INPUT: true; the input reads as it did. -/
def rlogStaysSpec : ChangeSpec := { name := "rlogStays", fn := fun _ => fun
  | [d1, d2, d3] => { results := [.lit (.bool true)], args := [d1, d2, d3] }
  | _ => none }
def rlogStaysRow : OpenClaim := { program := "ytndehdnffajigaa", sum := "7684248afda1c56426a50a26300c8c4bd2565bbf544d74a5b372b0cea0265c13", func := "tontine/tontinelaw07.RlogStays", spec := "rlogStays", unfollowed := true, recurses := true, apart := false }
def RlogStaysSaid : Prop := rlogStaysRow.holds Try.pinned (OpenSpec.ofChange rlogStaysSpec)

/-- ITS FALSE NEIGHBOUR: 'it returns false'. Refute it at one input. -/
def rlogStaysWrong : ChangeSpec := { name := "rlogStays", fn := fun _ => fun
  | [d1, d2, d3] => { results := [.lit (.bool false)], args := [d1, d2, d3] }
  | _ => none }
def RlogStaysWrongFalsely : Prop := rlogStaysRow.holds Try.pinned (OpenSpec.ofChange rlogStaysWrong)

/-- 'tontinelaw07.RlogMerges': WHATEVER THE INPUT: true; the input reads as it did. -/
def rlogMergesSpec : ChangeSpec := { name := "rlogMerges", fn := fun _ => fun
  | [d1, d2, d3] => { results := [.lit (.bool true)], args := [d1, d2, d3] }
  | _ => none }
def rlogMergesRow : OpenClaim := { program := "ytndehdnffajigaa", sum := "7684248afda1c56426a50a26300c8c4bd2565bbf544d74a5b372b0cea0265c13", func := "tontine/tontinelaw07.RlogMerges", spec := "rlogMerges", apart := false }
def RlogMergesSaid : Prop := rlogMergesRow.holds Try.pinned (OpenSpec.ofChange rlogMergesSpec)

/-- ITS FALSE NEIGHBOUR: 'it returns false'. Refute it at one input. -/
def rlogMergesWrong : ChangeSpec := { name := "rlogMerges", fn := fun _ => fun
  | [d1, d2, d3] => { results := [.lit (.bool false)], args := [d1, d2, d3] }
  | _ => none }
def RlogMergesWrongFalsely : Prop := rlogMergesRow.holds Try.pinned (OpenSpec.ofChange rlogMergesWrong)

/-- 'tontinelaw07.RlogMatches': WHATEVER THE INPUT: true; the input reads as it did. -/
def rlogMatchesSpec : ChangeSpec := { name := "rlogMatches", fn := fun _ => fun
  | [d] => { results := [.lit (.bool true)], args := [d] }
  | _ => none }
def rlogMatchesRow : OpenClaim := { program := "ytndehdnffajigaa", sum := "7684248afda1c56426a50a26300c8c4bd2565bbf544d74a5b372b0cea0265c13", func := "tontine/tontinelaw07.RlogMatches", spec := "rlogMatches", apart := false }
def RlogMatchesSaid : Prop := rlogMatchesRow.holds Try.pinned (OpenSpec.ofChange rlogMatchesSpec)

/-- ITS FALSE NEIGHBOUR: 'it returns false'. Refute it at one input. -/
def rlogMatchesWrong : ChangeSpec := { name := "rlogMatches", fn := fun _ => fun
  | [d] => { results := [.lit (.bool false)], args := [d] }
  | _ => none }
def RlogMatchesWrongFalsely : Prop := rlogMatchesRow.holds Try.pinned (OpenSpec.ofChange rlogMatchesWrong)

/-- 'tontinelaw07.RlogNone': WHATEVER THE INPUT: true; the input reads as it did. -/
def rlogNoneSpec : ChangeSpec := { name := "rlogNone", fn := fun _ => fun
  | [d1, d2, d3] => { results := [.lit (.bool true)], args := [d1, d2, d3] }
  | _ => none }
def rlogNoneRow : OpenClaim := { program := "ytndehdnffajigaa", sum := "7684248afda1c56426a50a26300c8c4bd2565bbf544d74a5b372b0cea0265c13", func := "tontine/tontinelaw07.RlogNone", spec := "rlogNone", unfollowed := true, recurses := true, apart := false }
def RlogNoneSaid : Prop := rlogNoneRow.holds Try.pinned (OpenSpec.ofChange rlogNoneSpec)

/-- ITS FALSE NEIGHBOUR: 'it returns false'. Refute it at one input. -/
def rlogNoneWrong : ChangeSpec := { name := "rlogNone", fn := fun _ => fun
  | [d1, d2, d3] => { results := [.lit (.bool false)], args := [d1, d2, d3] }
  | _ => none }
def RlogNoneWrongFalsely : Prop := rlogNoneRow.holds Try.pinned (OpenSpec.ofChange rlogNoneWrong)

/-- 'tontinelaw07.RlogCompacts': WHATEVER THE INPUT: true; the input reads as it did. -/
def rlogCompactsSpec : ChangeSpec := { name := "rlogCompacts", fn := fun _ => fun
  | [d1, d2, d3] => { results := [.lit (.bool true)], args := [d1, d2, d3] }
  | _ => none }
def rlogCompactsRow : OpenClaim := { program := "ytndehdnffajigaa", sum := "7684248afda1c56426a50a26300c8c4bd2565bbf544d74a5b372b0cea0265c13", func := "tontine/tontinelaw07.RlogCompacts", spec := "rlogCompacts", unfollowed := true, recurses := true, apart := false }
def RlogCompactsSaid : Prop := rlogCompactsRow.holds Try.pinned (OpenSpec.ofChange rlogCompactsSpec)

/-- ITS FALSE NEIGHBOUR: 'it returns false'. Refute it at one input. -/
def rlogCompactsWrong : ChangeSpec := { name := "rlogCompacts", fn := fun _ => fun
  | [d1, d2, d3] => { results := [.lit (.bool false)], args := [d1, d2, d3] }
  | _ => none }
def RlogCompactsWrongFalsely : Prop := rlogCompactsRow.holds Try.pinned (OpenSpec.ofChange rlogCompactsWrong)

/- THE SECOND FORM. 'bulk': how many values and letters a reading holds, each counted each time it is reached (what is shared counts as often as it is met; a slice's spare places count too). A statement '..UptoSaid' is the law's where the arguments, and the package variables that the reading takes, are together of bulk at most 1048576: NARROWER than '..Said'. Prove '..Said' where nothing that the law and all that it calls make is longer than what came in: it says more and counts as full. Else prove '..UptoSaid'. A law counts once. -/
mutual
def uptoBulk {H : Type} : DataW H → Nat
  | .lit (.string bytes) => bytes.length + 1
  | .lit _ => 1
  | .nil => 1
  | .ptr d => uptoBulk d + 1
  | .slice elems spare => uptoBulkAll elems + uptoBulkAll spare + 1
  | .agg parts => uptoBulkAll parts + 1
  | .iface _ d => uptoBulk d + 1
  | .map entries => uptoBulkEntries entries + 1
  | .held _ => 1
def uptoBulkAll {H : Type} : List (DataW H) → Nat
  | [] => 0
  | d :: r => uptoBulk d + uptoBulkAll r
def uptoBulkEntries {H : Type} : List (Lit × DataW H) → Nat
  | [] => 0
  | x :: r => uptoBulkEntry x + uptoBulkEntries r
def uptoBulkEntry {H : Type} : Lit × DataW H → Nat
  | (.string bytes, d) => bytes.length + uptoBulk d + 1
  | (_, d) => uptoBulk d + 1
 end
def uptoSmall : (H : Type) → List (DataW H) → Bool := fun _ ds => decide (uptoBulkAll ds ≤ 1048576)
def OpenSpec.upto (s : _root_.Go.ChangeSpec) : _root_.Go.OpenSpec := { _root_.Go.OpenSpec.ofChange s with cond := some uptoSmall }

/-- 'tontinelaw07.RlogRuns', WHERE WHAT IT READS IS OF BULK AT MOST 1048576: true; the input reads as it did. -/
def rlogRunsUptoRow : OpenClaim := { program := "ytndehdnffajigaa", sum := "7684248afda1c56426a50a26300c8c4bd2565bbf544d74a5b372b0cea0265c13", func := "tontine/tontinelaw07.RlogRuns", spec := "rlogRuns", unfollowed := true, recurses := true, apart := false, narrowed := true }
def RlogRunsUptoSaid : Prop := rlogRunsUptoRow.holds Try.pinned (OpenSpec.upto rlogRunsSpec)

/-- 'tontinelaw07.RlogStays', WHERE WHAT IT READS IS OF BULK AT MOST 1048576: true; the input reads as it did. -/
def rlogStaysUptoRow : OpenClaim := { program := "ytndehdnffajigaa", sum := "7684248afda1c56426a50a26300c8c4bd2565bbf544d74a5b372b0cea0265c13", func := "tontine/tontinelaw07.RlogStays", spec := "rlogStays", unfollowed := true, recurses := true, apart := false, narrowed := true }
def RlogStaysUptoSaid : Prop := rlogStaysUptoRow.holds Try.pinned (OpenSpec.upto rlogStaysSpec)

/-- 'tontinelaw07.RlogMerges', WHERE WHAT IT READS IS OF BULK AT MOST 1048576: true; the input reads as it did. -/
def rlogMergesUptoRow : OpenClaim := { program := "ytndehdnffajigaa", sum := "7684248afda1c56426a50a26300c8c4bd2565bbf544d74a5b372b0cea0265c13", func := "tontine/tontinelaw07.RlogMerges", spec := "rlogMerges", apart := false, narrowed := true }
def RlogMergesUptoSaid : Prop := rlogMergesUptoRow.holds Try.pinned (OpenSpec.upto rlogMergesSpec)

/-- 'tontinelaw07.RlogMatches', WHERE WHAT IT READS IS OF BULK AT MOST 1048576: true; the input reads as it did. -/
def rlogMatchesUptoRow : OpenClaim := { program := "ytndehdnffajigaa", sum := "7684248afda1c56426a50a26300c8c4bd2565bbf544d74a5b372b0cea0265c13", func := "tontine/tontinelaw07.RlogMatches", spec := "rlogMatches", apart := false, narrowed := true }
def RlogMatchesUptoSaid : Prop := rlogMatchesUptoRow.holds Try.pinned (OpenSpec.upto rlogMatchesSpec)

/-- 'tontinelaw07.RlogNone', WHERE WHAT IT READS IS OF BULK AT MOST 1048576: true; the input reads as it did. -/
def rlogNoneUptoRow : OpenClaim := { program := "ytndehdnffajigaa", sum := "7684248afda1c56426a50a26300c8c4bd2565bbf544d74a5b372b0cea0265c13", func := "tontine/tontinelaw07.RlogNone", spec := "rlogNone", unfollowed := true, recurses := true, apart := false, narrowed := true }
def RlogNoneUptoSaid : Prop := rlogNoneUptoRow.holds Try.pinned (OpenSpec.upto rlogNoneSpec)

/-- 'tontinelaw07.RlogCompacts', WHERE WHAT IT READS IS OF BULK AT MOST 1048576: true; the input reads as it did. -/
def rlogCompactsUptoRow : OpenClaim := { program := "ytndehdnffajigaa", sum := "7684248afda1c56426a50a26300c8c4bd2565bbf544d74a5b372b0cea0265c13", func := "tontine/tontinelaw07.RlogCompacts", spec := "rlogCompacts", unfollowed := true, recurses := true, apart := false, narrowed := true }
def RlogCompactsUptoSaid : Prop := rlogCompactsUptoRow.holds Try.pinned (OpenSpec.upto rlogCompactsSpec)

end Rows
end Go.Proofs.Ytndehdnffajigaa
