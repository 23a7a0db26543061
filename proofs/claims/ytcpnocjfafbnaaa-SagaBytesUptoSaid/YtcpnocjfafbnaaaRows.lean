/-
  No cell of these rows narrows 'for every input' (looked for: loops, veiled, ifaces, maps, wideKeys, modest, calm, conditions, laid).
  DERIVED. THE GIVEN ROWS OF THIS SEAT. 6 by the template 'for every input the law returns true; each argument reads behind the call as it read before'; 0 by the template 'total and deterministic' (their statements: YtcpnocjfafbnaaaTotals.lean).
  GIVEN WITH THE SEED: the statements are not yours to turn. If you find one false, say at which input.
  Laid BY PROGRAM, IN A SANDBOX (cutbox-rows.mjs): the forced cells as the released guide's own fill.sh prints them over the translation 9386fe1cda93607c… (all of the seat's roots in one cut). By AI agents, Wed Nov 11 2026. No macro, syntax, notation, axiom, sorry.
-/
import Derived.Test.YtcpnocjfafbnaaaChecked
import GoSem.Claim
import GoSem.ClaimJoined
import GoSem.ClaimMapViews
import Derived.JoinedTies
import Derived.KernelRfl
namespace Go.Proofs.Ytcpnocjfafbnaaa
/- THE CELL 'sum', in the pinned program and in every row, IS THE sha256 OF THE DUMP (.gsa) THAT YtcpnocjfafbnaaaProg.lean LOADS. Nothing in Lean hashes anything: it is a label: what it is worth is what the hold of that sum in a sandbox is worth. -/
noncomputable def Try.pinned : Pinned := { name := "ytcpnocjfafbnaaa", sum := "9386fe1cda93607c835a925754b309744f23c735b816c2178f60e1a5d09fe183", checked := Try.checked }
namespace Rows
def none {H : Type} : Left H := { results := [], args := [] }

/-- 'tontinelaw14.SagaSteps': WHATEVER THE INPUT: true; the input reads as it did. -/
def sagaStepsSpec : ChangeSpec := { name := "sagaSteps", fn := fun _ => fun
  | [d1, d2] => { results := [.lit (.bool true)], args := [d1, d2] }
  | _ => none }
def sagaStepsRow : OpenClaim := { program := "ytcpnocjfafbnaaa", sum := "9386fe1cda93607c835a925754b309744f23c735b816c2178f60e1a5d09fe183", func := "tontine/tontinelaw14.SagaSteps", spec := "sagaSteps", apart := false }
def SagaStepsSaid : Prop := sagaStepsRow.holds Try.pinned (OpenSpec.ofChange sagaStepsSpec)

/-- ITS FALSE NEIGHBOUR: 'it returns false'. Refute it at one input. -/
def sagaStepsWrong : ChangeSpec := { name := "sagaSteps", fn := fun _ => fun
  | [d1, d2] => { results := [.lit (.bool false)], args := [d1, d2] }
  | _ => none }
def SagaStepsWrongFalsely : Prop := sagaStepsRow.holds Try.pinned (OpenSpec.ofChange sagaStepsWrong)

/-- 'tontinelaw14.SagaOrder': WHATEVER THE INPUT: true; the input reads as it did. -/
def sagaOrderSpec : ChangeSpec := { name := "sagaOrder", fn := fun _ => fun
  | [d1, d2] => { results := [.lit (.bool true)], args := [d1, d2] }
  | _ => none }
def sagaOrderRow : OpenClaim := { program := "ytcpnocjfafbnaaa", sum := "9386fe1cda93607c835a925754b309744f23c735b816c2178f60e1a5d09fe183", func := "tontine/tontinelaw14.SagaOrder", spec := "sagaOrder", apart := false }
def SagaOrderSaid : Prop := sagaOrderRow.holds Try.pinned (OpenSpec.ofChange sagaOrderSpec)

/-- ITS FALSE NEIGHBOUR: 'it returns false'. Refute it at one input. -/
def sagaOrderWrong : ChangeSpec := { name := "sagaOrder", fn := fun _ => fun
  | [d1, d2] => { results := [.lit (.bool false)], args := [d1, d2] }
  | _ => none }
def SagaOrderWrongFalsely : Prop := sagaOrderRow.holds Try.pinned (OpenSpec.ofChange sagaOrderWrong)

/-- 'tontinelaw14.SagaEnds': WHATEVER THE INPUT: true; the input reads as it did. -/
def sagaEndsSpec : ChangeSpec := { name := "sagaEnds", fn := fun _ => fun
  | [d1, d2, d3] => { results := [.lit (.bool true)], args := [d1, d2, d3] }
  | _ => none }
def sagaEndsRow : OpenClaim := { program := "ytcpnocjfafbnaaa", sum := "9386fe1cda93607c835a925754b309744f23c735b816c2178f60e1a5d09fe183", func := "tontine/tontinelaw14.SagaEnds", spec := "sagaEnds", apart := false }
def SagaEndsSaid : Prop := sagaEndsRow.holds Try.pinned (OpenSpec.ofChange sagaEndsSpec)

/-- ITS FALSE NEIGHBOUR: 'it returns false'. Refute it at one input. -/
def sagaEndsWrong : ChangeSpec := { name := "sagaEnds", fn := fun _ => fun
  | [d1, d2, d3] => { results := [.lit (.bool false)], args := [d1, d2, d3] }
  | _ => none }
def SagaEndsWrongFalsely : Prop := sagaEndsRow.holds Try.pinned (OpenSpec.ofChange sagaEndsWrong)

/-- 'tontinelaw14.SagaBytes': WHATEVER THE INPUT: true; the input reads as it did. -/
def sagaBytesSpec : ChangeSpec := { name := "sagaBytes", fn := fun _ => fun
  | [d1, d2] => { results := [.lit (.bool true)], args := [d1, d2] }
  | _ => none }
def sagaBytesRow : OpenClaim := { program := "ytcpnocjfafbnaaa", sum := "9386fe1cda93607c835a925754b309744f23c735b816c2178f60e1a5d09fe183", func := "tontine/tontinelaw14.SagaBytes", spec := "sagaBytes", apart := false }
def SagaBytesSaid : Prop := sagaBytesRow.holds Try.pinned (OpenSpec.ofChange sagaBytesSpec)

/-- ITS FALSE NEIGHBOUR: 'it returns false'. Refute it at one input. -/
def sagaBytesWrong : ChangeSpec := { name := "sagaBytes", fn := fun _ => fun
  | [d1, d2] => { results := [.lit (.bool false)], args := [d1, d2] }
  | _ => none }
def SagaBytesWrongFalsely : Prop := sagaBytesRow.holds Try.pinned (OpenSpec.ofChange sagaBytesWrong)

/-- 'tontinelaw14.SagaTwice': WHATEVER THE INPUT: true; the input reads as it did. -/
def sagaTwiceSpec : ChangeSpec := { name := "sagaTwice", fn := fun _ => fun
  | [d1, d2] => { results := [.lit (.bool true)], args := [d1, d2] }
  | _ => none }
def sagaTwiceRow : OpenClaim := { program := "ytcpnocjfafbnaaa", sum := "9386fe1cda93607c835a925754b309744f23c735b816c2178f60e1a5d09fe183", func := "tontine/tontinelaw14.SagaTwice", spec := "sagaTwice", apart := false }
def SagaTwiceSaid : Prop := sagaTwiceRow.holds Try.pinned (OpenSpec.ofChange sagaTwiceSpec)

/-- ITS FALSE NEIGHBOUR: 'it returns false'. Refute it at one input. -/
def sagaTwiceWrong : ChangeSpec := { name := "sagaTwice", fn := fun _ => fun
  | [d1, d2] => { results := [.lit (.bool false)], args := [d1, d2] }
  | _ => none }
def SagaTwiceWrongFalsely : Prop := sagaTwiceRow.holds Try.pinned (OpenSpec.ofChange sagaTwiceWrong)

/-- 'tontinelaw14.SagaBudgets': WHATEVER THE INPUT: true; the input reads as it did. -/
def sagaBudgetsSpec : ChangeSpec := { name := "sagaBudgets", fn := fun _ => fun
  | [d1, d2, d3] => { results := [.lit (.bool true)], args := [d1, d2, d3] }
  | _ => none }
def sagaBudgetsRow : OpenClaim := { program := "ytcpnocjfafbnaaa", sum := "9386fe1cda93607c835a925754b309744f23c735b816c2178f60e1a5d09fe183", func := "tontine/tontinelaw14.SagaBudgets", spec := "sagaBudgets", apart := false }
def SagaBudgetsSaid : Prop := sagaBudgetsRow.holds Try.pinned (OpenSpec.ofChange sagaBudgetsSpec)

/-- ITS FALSE NEIGHBOUR: 'it returns false'. Refute it at one input. -/
def sagaBudgetsWrong : ChangeSpec := { name := "sagaBudgets", fn := fun _ => fun
  | [d1, d2, d3] => { results := [.lit (.bool false)], args := [d1, d2, d3] }
  | _ => none }
def SagaBudgetsWrongFalsely : Prop := sagaBudgetsRow.holds Try.pinned (OpenSpec.ofChange sagaBudgetsWrong)

/- THE SECOND FORM. 'bulk': how many values and letters a reading holds, each counted each time it is reached (what is shared counts as often as it is met; a slice's spare places count too). A statement '..UptoSaid' is the law's where the arguments, and the package variables that the reading takes, are together of bulk at most 1048576: NARROWER than '..Said'. Prove '..Said' where nothing that the law and all that it calls make is longer than what came in: it says more and counts as full. Else prove '..UptoSaid'. A law counts once. -/
mutual
def uptoBulk {H : Type} : DataW H → Nat
  | .lit (.string bytes) => bytes.length + 1
  | .lit _ => 1
  | .nil => 1
  | .ptr d => uptoBulk d + 1
  | .slice elems spare => uptoBulkAll elems + uptoBulkAll spare + 1
  | .agg parts => uptoBulkAll parts + 1
  | .iface _ d => uptoBulk d + 1
  | .map entries => uptoBulkEntries entries + 1
  | .held _ => 1
def uptoBulkAll {H : Type} : List (DataW H) → Nat
  | [] => 0
  | d :: r => uptoBulk d + uptoBulkAll r
def uptoBulkEntries {H : Type} : List (Lit × DataW H) → Nat
  | [] => 0
  | x :: r => uptoBulkEntry x + uptoBulkEntries r
def uptoBulkEntry {H : Type} : Lit × DataW H → Nat
  | (.string bytes, d) => bytes.length + uptoBulk d + 1
  | (_, d) => uptoBulk d + 1
 end
def uptoSmall : (H : Type) → List (DataW H) → Bool := fun _ ds => decide (uptoBulkAll ds ≤ 1048576)
def OpenSpec.upto (s : _root_.Go.ChangeSpec) : _root_.Go.OpenSpec := { _root_.Go.OpenSpec.ofChange s with cond := some uptoSmall }

/-- 'tontinelaw14.SagaSteps', WHERE WHAT IT READS IS OF BULK AT MOST 1048576: true; the input reads as it did. -/
def sagaStepsUptoRow : OpenClaim := { program := "ytcpnocjfafbnaaa", sum := "9386fe1cda93607c835a925754b309744f23c735b816c2178f60e1a5d09fe183", func := "tontine/tontinelaw14.SagaSteps", spec := "sagaSteps", apart := false, narrowed := true }
def SagaStepsUptoSaid : Prop := sagaStepsUptoRow.holds Try.pinned (OpenSpec.upto sagaStepsSpec)

/-- 'tontinelaw14.SagaOrder', WHERE WHAT IT READS IS OF BULK AT MOST 1048576: true; the input reads as it did. -/
def sagaOrderUptoRow : OpenClaim := { program := "ytcpnocjfafbnaaa", sum := "9386fe1cda93607c835a925754b309744f23c735b816c2178f60e1a5d09fe183", func := "tontine/tontinelaw14.SagaOrder", spec := "sagaOrder", apart := false, narrowed := true }
def SagaOrderUptoSaid : Prop := sagaOrderUptoRow.holds Try.pinned (OpenSpec.upto sagaOrderSpec)

/-- 'tontinelaw14.SagaEnds', WHERE WHAT IT READS IS OF BULK AT MOST 1048576: true; the input reads as it did. -/
def sagaEndsUptoRow : OpenClaim := { program := "ytcpnocjfafbnaaa", sum := "9386fe1cda93607c835a925754b309744f23c735b816c2178f60e1a5d09fe183", func := "tontine/tontinelaw14.SagaEnds", spec := "sagaEnds", apart := false, narrowed := true }
def SagaEndsUptoSaid : Prop := sagaEndsUptoRow.holds Try.pinned (OpenSpec.upto sagaEndsSpec)

/-- 'tontinelaw14.SagaBytes', WHERE WHAT IT READS IS OF BULK AT MOST 1048576: true; the input reads as it did. -/
def sagaBytesUptoRow : OpenClaim := { program := "ytcpnocjfafbnaaa", sum := "9386fe1cda93607c835a925754b309744f23c735b816c2178f60e1a5d09fe183", func := "tontine/tontinelaw14.SagaBytes", spec := "sagaBytes", apart := false, narrowed := true }
def SagaBytesUptoSaid : Prop := sagaBytesUptoRow.holds Try.pinned (OpenSpec.upto sagaBytesSpec)

/-- 'tontinelaw14.SagaTwice', WHERE WHAT IT READS IS OF BULK AT MOST 1048576: true; the input reads as it did. -/
def sagaTwiceUptoRow : OpenClaim := { program := "ytcpnocjfafbnaaa", sum := "9386fe1cda93607c835a925754b309744f23c735b816c2178f60e1a5d09fe183", func := "tontine/tontinelaw14.SagaTwice", spec := "sagaTwice", apart := false, narrowed := true }
def SagaTwiceUptoSaid : Prop := sagaTwiceUptoRow.holds Try.pinned (OpenSpec.upto sagaTwiceSpec)

/-- 'tontinelaw14.SagaBudgets', WHERE WHAT IT READS IS OF BULK AT MOST 1048576: true; the input reads as it did. -/
def sagaBudgetsUptoRow : OpenClaim := { program := "ytcpnocjfafbnaaa", sum := "9386fe1cda93607c835a925754b309744f23c735b816c2178f60e1a5d09fe183", func := "tontine/tontinelaw14.SagaBudgets", spec := "sagaBudgets", apart := false, narrowed := true }
def SagaBudgetsUptoSaid : Prop := sagaBudgetsUptoRow.holds Try.pinned (OpenSpec.upto sagaBudgetsSpec)

end Rows
end Go.Proofs.Ytcpnocjfafbnaaa
