/-
  NARROWER THAN 'FOR EVERY INPUT', by the rows' own cells (each row's printed sentence says how): WalScans: laid · WalBack: laid · WalRuns: laid · WalLasts: laid · WalAnew: laid · WalRefuses: laid · WalGrows: laid.
  DERIVED. THE GIVEN ROWS OF THIS SEAT. 7 by the template 'for every input the law returns true; each argument reads behind the call as it read before'; 0 by the template 'total and deterministic' (their statements: YtmimpfccngihiaaDoorTotals.lean).
  GIVEN WITH THE SEED: the statements are not yours to turn. If you find one false, say at which input.
  Laid BY PROGRAM, IN A SANDBOX (cutbox-rows.mjs): the forced cells as the released guide's own fill.sh prints them over the translation cf4ed1e2d7eebf77… (all of the seat's roots in one cut). By AI agents, Wed Nov 11 2026. No macro, syntax, notation, axiom, sorry.
-/
import Derived.Test.YtmimpfccngihiaaDoorChecked
import GoSem.Claim
import GoSem.ClaimJoined
import GoSem.ClaimMapViews
import Derived.JoinedTies
import Derived.KernelRfl
namespace Go.Proofs.YtmimpfccngihiaaDoor
/- THE CELL 'sum', in the pinned program and in every row, IS THE sha256 OF THE DUMP (.gsa) THAT YtmimpfccngihiaaDoorProg.lean LOADS. Nothing in Lean hashes anything: it is a label: what it is worth is what the hold of that sum in a sandbox is worth. -/
noncomputable def Tryd.pinned : Pinned := { name := "ytmimpfccngihiaadoor", sum := "cf4ed1e2d7eebf77ec91703469b9e0f7ab0ef5706ece55b807a983787cb805e2", checked := Tryd.checked }
namespace Rows
def none {H : Type} : Left H := { results := [], args := [] }

/- WHAT THE LISTED PACKAGE-LEVEL VARIABLES READ AS WHEN THE CALL BEGINS. Each datum BY PROGRAM (the guide's laid-datum.mjs) off the statement by which the dump's own 'gosem.cut.vars' lays the variable. In a bare row this is a premise. The card (YtmimpfccngihiaaDoorCards.lean) ties it to the program's text. -/
def laid_tontine_crc_fours {H : Type} : DataW H := .agg [.lit (.int .u32 0), .lit (.int .u32 274646895), .lit (.int .u32 549293790), .lit (.int .u32 820201905), .lit (.int .u32 1098587580), .lit (.int .u32 1361435347), .lit (.int .u32 1640403810), .lit (.int .u32 1905808397), .lit (.int .u32 2197175160), .lit (.int .u32 2460548119), .lit (.int .u32 2722870694), .lit (.int .u32 2987750089), .lit (.int .u32 3280807620), .lit (.int .u32 3553878443), .lit (.int .u32 3811616794), .lit (.int .u32 4084100981)]

/-- 'tontinelaw05.WalScans': WHATEVER THE INPUT: true; the input reads as it did. -/
def walScansSpec : ChangeSpec := { name := "walScans", fn := fun _ => fun
  | [d1, d2] => { results := [.lit (.bool true)], args := [d1, d2] }
  | _ => none }
def walScansRow : OpenClaim := { program := "ytmimpfccngihiaadoor", sum := "cf4ed1e2d7eebf77ec91703469b9e0f7ab0ef5706ece55b807a983787cb805e2", func := "tontine/tontinelaw05.WalScans", spec := "walScans", inPlace := ["internal/bytealg.IndexByte", "internal/abi.NoEscape"], named := ["tontine/crc.fours"], apart := false, laid := [("tontine/crc.fours", laid_tontine_crc_fours)] }
def WalScansSaid : Prop := walScansRow.holds Tryd.pinned (OpenSpec.ofChange walScansSpec)

/-- ITS FALSE NEIGHBOUR: 'it returns false'. Refute it at one input. -/
def walScansWrong : ChangeSpec := { name := "walScans", fn := fun _ => fun
  | [d1, d2] => { results := [.lit (.bool false)], args := [d1, d2] }
  | _ => none }
def WalScansWrongFalsely : Prop := walScansRow.holds Tryd.pinned (OpenSpec.ofChange walScansWrong)

/-- 'tontinelaw05.WalBack': WHATEVER THE INPUT: true; the input reads as it did. -/
def walBackSpec : ChangeSpec := { name := "walBack", fn := fun _ => fun
  | [d1, d2] => { results := [.lit (.bool true)], args := [d1, d2] }
  | _ => none }
def walBackRow : OpenClaim := { program := "ytmimpfccngihiaadoor", sum := "cf4ed1e2d7eebf77ec91703469b9e0f7ab0ef5706ece55b807a983787cb805e2", func := "tontine/tontinelaw05.WalBack", spec := "walBack", inPlace := ["internal/bytealg.IndexByte", "internal/abi.NoEscape"], named := ["tontine/crc.fours"], apart := false, laid := [("tontine/crc.fours", laid_tontine_crc_fours)] }
def WalBackSaid : Prop := walBackRow.holds Tryd.pinned (OpenSpec.ofChange walBackSpec)

/-- ITS FALSE NEIGHBOUR: 'it returns false'. Refute it at one input. -/
def walBackWrong : ChangeSpec := { name := "walBack", fn := fun _ => fun
  | [d1, d2] => { results := [.lit (.bool false)], args := [d1, d2] }
  | _ => none }
def WalBackWrongFalsely : Prop := walBackRow.holds Tryd.pinned (OpenSpec.ofChange walBackWrong)

/-- 'tontinelaw05.WalRuns': WHATEVER THE INPUT: true; the input reads as it did. -/
def walRunsSpec : ChangeSpec := { name := "walRuns", fn := fun _ => fun
  | [d1, d2, d3] => { results := [.lit (.bool true)], args := [d1, d2, d3] }
  | _ => none }
def walRunsRow : OpenClaim := { program := "ytmimpfccngihiaadoor", sum := "cf4ed1e2d7eebf77ec91703469b9e0f7ab0ef5706ece55b807a983787cb805e2", func := "tontine/tontinelaw05.WalRuns", spec := "walRuns", inPlace := ["internal/bytealg.IndexByte", "internal/abi.NoEscape"], named := ["tontine/crc.fours"], apart := false, laid := [("tontine/crc.fours", laid_tontine_crc_fours)] }
def WalRunsSaid : Prop := walRunsRow.holds Tryd.pinned (OpenSpec.ofChange walRunsSpec)

/-- ITS FALSE NEIGHBOUR: 'it returns false'. Refute it at one input. -/
def walRunsWrong : ChangeSpec := { name := "walRuns", fn := fun _ => fun
  | [d1, d2, d3] => { results := [.lit (.bool false)], args := [d1, d2, d3] }
  | _ => none }
def WalRunsWrongFalsely : Prop := walRunsRow.holds Tryd.pinned (OpenSpec.ofChange walRunsWrong)

/-- 'tontinelaw05.WalLasts': WHATEVER THE INPUT: true; the input reads as it did. -/
def walLastsSpec : ChangeSpec := { name := "walLasts", fn := fun _ => fun
  | [d1, d2, d3] => { results := [.lit (.bool true)], args := [d1, d2, d3] }
  | _ => none }
def walLastsRow : OpenClaim := { program := "ytmimpfccngihiaadoor", sum := "cf4ed1e2d7eebf77ec91703469b9e0f7ab0ef5706ece55b807a983787cb805e2", func := "tontine/tontinelaw05.WalLasts", spec := "walLasts", inPlace := ["internal/bytealg.IndexByte", "internal/abi.NoEscape"], named := ["tontine/crc.fours"], apart := false, laid := [("tontine/crc.fours", laid_tontine_crc_fours)] }
def WalLastsSaid : Prop := walLastsRow.holds Tryd.pinned (OpenSpec.ofChange walLastsSpec)

/-- ITS FALSE NEIGHBOUR: 'it returns false'. Refute it at one input. -/
def walLastsWrong : ChangeSpec := { name := "walLasts", fn := fun _ => fun
  | [d1, d2, d3] => { results := [.lit (.bool false)], args := [d1, d2, d3] }
  | _ => none }
def WalLastsWrongFalsely : Prop := walLastsRow.holds Tryd.pinned (OpenSpec.ofChange walLastsWrong)

/-- 'tontinelaw05.WalAnew': WHATEVER THE INPUT: true; the input reads as it did. -/
def walAnewSpec : ChangeSpec := { name := "walAnew", fn := fun _ => fun
  | [d1, d2, d3] => { results := [.lit (.bool true)], args := [d1, d2, d3] }
  | _ => none }
def walAnewRow : OpenClaim := { program := "ytmimpfccngihiaadoor", sum := "cf4ed1e2d7eebf77ec91703469b9e0f7ab0ef5706ece55b807a983787cb805e2", func := "tontine/tontinelaw05.WalAnew", spec := "walAnew", inPlace := ["internal/bytealg.IndexByte", "internal/abi.NoEscape"], named := ["tontine/crc.fours"], apart := false, laid := [("tontine/crc.fours", laid_tontine_crc_fours)] }
def WalAnewSaid : Prop := walAnewRow.holds Tryd.pinned (OpenSpec.ofChange walAnewSpec)

/-- ITS FALSE NEIGHBOUR: 'it returns false'. Refute it at one input. -/
def walAnewWrong : ChangeSpec := { name := "walAnew", fn := fun _ => fun
  | [d1, d2, d3] => { results := [.lit (.bool false)], args := [d1, d2, d3] }
  | _ => none }
def WalAnewWrongFalsely : Prop := walAnewRow.holds Tryd.pinned (OpenSpec.ofChange walAnewWrong)

/-- 'tontinelaw05.WalRefuses': WHATEVER THE INPUT: true; the input reads as it did. -/
def walRefusesSpec : ChangeSpec := { name := "walRefuses", fn := fun _ => fun
  | [d1, d2] => { results := [.lit (.bool true)], args := [d1, d2] }
  | _ => none }
def walRefusesRow : OpenClaim := { program := "ytmimpfccngihiaadoor", sum := "cf4ed1e2d7eebf77ec91703469b9e0f7ab0ef5706ece55b807a983787cb805e2", func := "tontine/tontinelaw05.WalRefuses", spec := "walRefuses", inPlace := ["internal/bytealg.IndexByte", "internal/abi.NoEscape"], named := ["tontine/crc.fours"], apart := false, laid := [("tontine/crc.fours", laid_tontine_crc_fours)] }
def WalRefusesSaid : Prop := walRefusesRow.holds Tryd.pinned (OpenSpec.ofChange walRefusesSpec)

/-- ITS FALSE NEIGHBOUR: 'it returns false'. Refute it at one input. -/
def walRefusesWrong : ChangeSpec := { name := "walRefuses", fn := fun _ => fun
  | [d1, d2] => { results := [.lit (.bool false)], args := [d1, d2] }
  | _ => none }
def WalRefusesWrongFalsely : Prop := walRefusesRow.holds Tryd.pinned (OpenSpec.ofChange walRefusesWrong)

/-- 'tontinelaw05.WalGrows': WHATEVER THE INPUT: true; the input reads as it did. -/
def walGrowsSpec : ChangeSpec := { name := "walGrows", fn := fun _ => fun
  | [d1, d2] => { results := [.lit (.bool true)], args := [d1, d2] }
  | _ => none }
def walGrowsRow : OpenClaim := { program := "ytmimpfccngihiaadoor", sum := "cf4ed1e2d7eebf77ec91703469b9e0f7ab0ef5706ece55b807a983787cb805e2", func := "tontine/tontinelaw05.WalGrows", spec := "walGrows", inPlace := ["internal/bytealg.IndexByte", "internal/abi.NoEscape"], named := ["tontine/crc.fours"], apart := false, laid := [("tontine/crc.fours", laid_tontine_crc_fours)] }
def WalGrowsSaid : Prop := walGrowsRow.holds Tryd.pinned (OpenSpec.ofChange walGrowsSpec)

/-- ITS FALSE NEIGHBOUR: 'it returns false'. Refute it at one input. -/
def walGrowsWrong : ChangeSpec := { name := "walGrows", fn := fun _ => fun
  | [d1, d2] => { results := [.lit (.bool false)], args := [d1, d2] }
  | _ => none }
def WalGrowsWrongFalsely : Prop := walGrowsRow.holds Tryd.pinned (OpenSpec.ofChange walGrowsWrong)

/- THE SECOND FORM. 'bulk': how many values and letters a reading holds, each counted each time it is reached (what is shared counts as often as it is met; a slice's spare places count too). A statement '..UptoSaid' is the law's where the arguments, and the package variables that the reading takes, are together of bulk at most 1048576: NARROWER than '..Said'. Prove '..Said' where nothing that the law and all that it calls make is longer than what came in: it says more and counts as full. Else prove '..UptoSaid'. A law counts once. -/
mutual
def uptoBulk {H : Type} : DataW H → Nat
  | .lit (.string bytes) => bytes.length + 1
  | .lit _ => 1
  | .nil => 1
  | .ptr d => uptoBulk d + 1
  | .slice elems spare => uptoBulkAll elems + uptoBulkAll spare + 1
  | .agg parts => uptoBulkAll parts + 1
  | .iface _ d => uptoBulk d + 1
  | .map entries => uptoBulkEntries entries + 1
  | .held _ => 1
def uptoBulkAll {H : Type} : List (DataW H) → Nat
  | [] => 0
  | d :: r => uptoBulk d + uptoBulkAll r
def uptoBulkEntries {H : Type} : List (Lit × DataW H) → Nat
  | [] => 0
  | x :: r => uptoBulkEntry x + uptoBulkEntries r
def uptoBulkEntry {H : Type} : Lit × DataW H → Nat
  | (.string bytes, d) => bytes.length + uptoBulk d + 1
  | (_, d) => uptoBulk d + 1
 end
def uptoSmall : (H : Type) → List (DataW H) → Bool := fun _ ds => decide (uptoBulkAll ds ≤ 1048576)
def OpenSpec.upto (s : _root_.Go.ChangeSpec) : _root_.Go.OpenSpec := { _root_.Go.OpenSpec.ofChange s with cond := some uptoSmall }

/-- 'tontinelaw05.WalScans', WHERE WHAT IT READS IS OF BULK AT MOST 1048576: true; the input reads as it did. -/
def walScansUptoRow : OpenClaim := { program := "ytmimpfccngihiaadoor", sum := "cf4ed1e2d7eebf77ec91703469b9e0f7ab0ef5706ece55b807a983787cb805e2", func := "tontine/tontinelaw05.WalScans", spec := "walScans", inPlace := ["internal/bytealg.IndexByte", "internal/abi.NoEscape"], named := ["tontine/crc.fours"], apart := false, laid := [("tontine/crc.fours", laid_tontine_crc_fours)], narrowed := true }
def WalScansUptoSaid : Prop := walScansUptoRow.holds Tryd.pinned (OpenSpec.upto walScansSpec)

/-- 'tontinelaw05.WalBack', WHERE WHAT IT READS IS OF BULK AT MOST 1048576: true; the input reads as it did. -/
def walBackUptoRow : OpenClaim := { program := "ytmimpfccngihiaadoor", sum := "cf4ed1e2d7eebf77ec91703469b9e0f7ab0ef5706ece55b807a983787cb805e2", func := "tontine/tontinelaw05.WalBack", spec := "walBack", inPlace := ["internal/bytealg.IndexByte", "internal/abi.NoEscape"], named := ["tontine/crc.fours"], apart := false, laid := [("tontine/crc.fours", laid_tontine_crc_fours)], narrowed := true }
def WalBackUptoSaid : Prop := walBackUptoRow.holds Tryd.pinned (OpenSpec.upto walBackSpec)

/-- 'tontinelaw05.WalRuns', WHERE WHAT IT READS IS OF BULK AT MOST 1048576: true; the input reads as it did. -/
def walRunsUptoRow : OpenClaim := { program := "ytmimpfccngihiaadoor", sum := "cf4ed1e2d7eebf77ec91703469b9e0f7ab0ef5706ece55b807a983787cb805e2", func := "tontine/tontinelaw05.WalRuns", spec := "walRuns", inPlace := ["internal/bytealg.IndexByte", "internal/abi.NoEscape"], named := ["tontine/crc.fours"], apart := false, laid := [("tontine/crc.fours", laid_tontine_crc_fours)], narrowed := true }
def WalRunsUptoSaid : Prop := walRunsUptoRow.holds Tryd.pinned (OpenSpec.upto walRunsSpec)

/-- 'tontinelaw05.WalLasts', WHERE WHAT IT READS IS OF BULK AT MOST 1048576: true; the input reads as it did. -/
def walLastsUptoRow : OpenClaim := { program := "ytmimpfccngihiaadoor", sum := "cf4ed1e2d7eebf77ec91703469b9e0f7ab0ef5706ece55b807a983787cb805e2", func := "tontine/tontinelaw05.WalLasts", spec := "walLasts", inPlace := ["internal/bytealg.IndexByte", "internal/abi.NoEscape"], named := ["tontine/crc.fours"], apart := false, laid := [("tontine/crc.fours", laid_tontine_crc_fours)], narrowed := true }
def WalLastsUptoSaid : Prop := walLastsUptoRow.holds Tryd.pinned (OpenSpec.upto walLastsSpec)

/-- 'tontinelaw05.WalAnew', WHERE WHAT IT READS IS OF BULK AT MOST 1048576: true; the input reads as it did. -/
def walAnewUptoRow : OpenClaim := { program := "ytmimpfccngihiaadoor", sum := "cf4ed1e2d7eebf77ec91703469b9e0f7ab0ef5706ece55b807a983787cb805e2", func := "tontine/tontinelaw05.WalAnew", spec := "walAnew", inPlace := ["internal/bytealg.IndexByte", "internal/abi.NoEscape"], named := ["tontine/crc.fours"], apart := false, laid := [("tontine/crc.fours", laid_tontine_crc_fours)], narrowed := true }
def WalAnewUptoSaid : Prop := walAnewUptoRow.holds Tryd.pinned (OpenSpec.upto walAnewSpec)

/-- 'tontinelaw05.WalRefuses', WHERE WHAT IT READS IS OF BULK AT MOST 1048576: true; the input reads as it did. -/
def walRefusesUptoRow : OpenClaim := { program := "ytmimpfccngihiaadoor", sum := "cf4ed1e2d7eebf77ec91703469b9e0f7ab0ef5706ece55b807a983787cb805e2", func := "tontine/tontinelaw05.WalRefuses", spec := "walRefuses", inPlace := ["internal/bytealg.IndexByte", "internal/abi.NoEscape"], named := ["tontine/crc.fours"], apart := false, laid := [("tontine/crc.fours", laid_tontine_crc_fours)], narrowed := true }
def WalRefusesUptoSaid : Prop := walRefusesUptoRow.holds Tryd.pinned (OpenSpec.upto walRefusesSpec)

/-- 'tontinelaw05.WalGrows', WHERE WHAT IT READS IS OF BULK AT MOST 1048576: true; the input reads as it did. -/
def walGrowsUptoRow : OpenClaim := { program := "ytmimpfccngihiaadoor", sum := "cf4ed1e2d7eebf77ec91703469b9e0f7ab0ef5706ece55b807a983787cb805e2", func := "tontine/tontinelaw05.WalGrows", spec := "walGrows", inPlace := ["internal/bytealg.IndexByte", "internal/abi.NoEscape"], named := ["tontine/crc.fours"], apart := false, laid := [("tontine/crc.fours", laid_tontine_crc_fours)], narrowed := true }
def WalGrowsUptoSaid : Prop := walGrowsUptoRow.holds Tryd.pinned (OpenSpec.upto walGrowsSpec)

end Rows
end Go.Proofs.YtmimpfccngihiaaDoor
