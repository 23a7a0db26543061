/-
  DERIVED. GIVEN WITH THE SEED: THE CARDS: each row of YtmimpfccngihiaaDoorRows.lean that lists a variable, with what it lists TIED to the program's text (the seventh form; the later family's looks); each row that meets fmt, with fmt's text TOLD by the authors' own Lean function (tested against real Go, not proved from fmt's source: count such statements apart). THE CARD IS WHAT COUNTS. Prove the row's statement (the work); the ties are given (YtmimpfccngihiaaDoorTie.lean); close each card by the builder's one call (the guide's Derived/Test/ToyasCard.lean, 'card_holds'). Laid BY PROGRAM, IN A SANDBOX (cutbox-door.mjs). By AI agents, Wed Nov 11 2026. No macro, syntax, notation, axiom, sorry.
-/
import Derived.Test.YtmimpfccngihiaaDoorRows
import GoSem.ClaimSeven
namespace Go.Proofs.YtmimpfccngihiaaDoor
namespace Rows

/-- THE TIED CARD OF 'tontinelaw05.WalScans'. -/
def walScansCard : Claim7 := { stood := { row := walScansRow, standIns := [], harness := (true, "4a15fedc4e040d8d9a9ac0cd7a160ddc13090f4c21fa2165f6dfa20b408a5e1f"), looks := false }, kinds := [], alts := [], laidByText := true, laidKinds := [.data], laidTests := true, laidLooks := .later }
def WalScansCardSaid : Prop := Claim7.holds Tryd.pinned (.plain (OpenSpec.ofChange walScansSpec)) walScansCard

/-- THE TIED CARD OF 'tontinelaw05.WalBack'. -/
def walBackCard : Claim7 := { stood := { row := walBackRow, standIns := [], harness := (true, "4a15fedc4e040d8d9a9ac0cd7a160ddc13090f4c21fa2165f6dfa20b408a5e1f"), looks := false }, kinds := [], alts := [], laidByText := true, laidKinds := [.data], laidTests := true, laidLooks := .later }
def WalBackCardSaid : Prop := Claim7.holds Tryd.pinned (.plain (OpenSpec.ofChange walBackSpec)) walBackCard

/-- THE TIED CARD OF 'tontinelaw05.WalRuns'. -/
def walRunsCard : Claim7 := { stood := { row := walRunsRow, standIns := [], harness := (true, "4a15fedc4e040d8d9a9ac0cd7a160ddc13090f4c21fa2165f6dfa20b408a5e1f"), looks := false }, kinds := [], alts := [], laidByText := true, laidKinds := [.data], laidTests := true, laidLooks := .later }
def WalRunsCardSaid : Prop := Claim7.holds Tryd.pinned (.plain (OpenSpec.ofChange walRunsSpec)) walRunsCard

/-- THE TIED CARD OF 'tontinelaw05.WalLasts'. -/
def walLastsCard : Claim7 := { stood := { row := walLastsRow, standIns := [], harness := (true, "4a15fedc4e040d8d9a9ac0cd7a160ddc13090f4c21fa2165f6dfa20b408a5e1f"), looks := false }, kinds := [], alts := [], laidByText := true, laidKinds := [.data], laidTests := true, laidLooks := .later }
def WalLastsCardSaid : Prop := Claim7.holds Tryd.pinned (.plain (OpenSpec.ofChange walLastsSpec)) walLastsCard

/-- THE TIED CARD OF 'tontinelaw05.WalAnew'. -/
def walAnewCard : Claim7 := { stood := { row := walAnewRow, standIns := [], harness := (true, "4a15fedc4e040d8d9a9ac0cd7a160ddc13090f4c21fa2165f6dfa20b408a5e1f"), looks := false }, kinds := [], alts := [], laidByText := true, laidKinds := [.data], laidTests := true, laidLooks := .later }
def WalAnewCardSaid : Prop := Claim7.holds Tryd.pinned (.plain (OpenSpec.ofChange walAnewSpec)) walAnewCard

/-- THE TIED CARD OF 'tontinelaw05.WalRefuses'. -/
def walRefusesCard : Claim7 := { stood := { row := walRefusesRow, standIns := [], harness := (true, "4a15fedc4e040d8d9a9ac0cd7a160ddc13090f4c21fa2165f6dfa20b408a5e1f"), looks := false }, kinds := [], alts := [], laidByText := true, laidKinds := [.data], laidTests := true, laidLooks := .later }
def WalRefusesCardSaid : Prop := Claim7.holds Tryd.pinned (.plain (OpenSpec.ofChange walRefusesSpec)) walRefusesCard

/-- THE TIED CARD OF 'tontinelaw05.WalGrows'. -/
def walGrowsCard : Claim7 := { stood := { row := walGrowsRow, standIns := [], harness := (true, "4a15fedc4e040d8d9a9ac0cd7a160ddc13090f4c21fa2165f6dfa20b408a5e1f"), looks := false }, kinds := [], alts := [], laidByText := true, laidKinds := [.data], laidTests := true, laidLooks := .later }
def WalGrowsCardSaid : Prop := Claim7.holds Tryd.pinned (.plain (OpenSpec.ofChange walGrowsSpec)) walGrowsCard

/-- THE SECOND FORM's CARD OF 'tontinelaw05.WalScans'. -/
def walScansUptoCard : Claim7 := { stood := { row := walScansUptoRow, standIns := [], harness := (true, "4a15fedc4e040d8d9a9ac0cd7a160ddc13090f4c21fa2165f6dfa20b408a5e1f"), looks := false }, kinds := [], alts := [], laidByText := true, laidKinds := [.data], laidTests := true, laidLooks := .later }
def WalScansUptoCardSaid : Prop := Claim7.holds Tryd.pinned (.plain (OpenSpec.upto walScansSpec)) walScansUptoCard

/-- THE SECOND FORM's CARD OF 'tontinelaw05.WalBack'. -/
def walBackUptoCard : Claim7 := { stood := { row := walBackUptoRow, standIns := [], harness := (true, "4a15fedc4e040d8d9a9ac0cd7a160ddc13090f4c21fa2165f6dfa20b408a5e1f"), looks := false }, kinds := [], alts := [], laidByText := true, laidKinds := [.data], laidTests := true, laidLooks := .later }
def WalBackUptoCardSaid : Prop := Claim7.holds Tryd.pinned (.plain (OpenSpec.upto walBackSpec)) walBackUptoCard

/-- THE SECOND FORM's CARD OF 'tontinelaw05.WalRuns'. -/
def walRunsUptoCard : Claim7 := { stood := { row := walRunsUptoRow, standIns := [], harness := (true, "4a15fedc4e040d8d9a9ac0cd7a160ddc13090f4c21fa2165f6dfa20b408a5e1f"), looks := false }, kinds := [], alts := [], laidByText := true, laidKinds := [.data], laidTests := true, laidLooks := .later }
def WalRunsUptoCardSaid : Prop := Claim7.holds Tryd.pinned (.plain (OpenSpec.upto walRunsSpec)) walRunsUptoCard

/-- THE SECOND FORM's CARD OF 'tontinelaw05.WalLasts'. -/
def walLastsUptoCard : Claim7 := { stood := { row := walLastsUptoRow, standIns := [], harness := (true, "4a15fedc4e040d8d9a9ac0cd7a160ddc13090f4c21fa2165f6dfa20b408a5e1f"), looks := false }, kinds := [], alts := [], laidByText := true, laidKinds := [.data], laidTests := true, laidLooks := .later }
def WalLastsUptoCardSaid : Prop := Claim7.holds Tryd.pinned (.plain (OpenSpec.upto walLastsSpec)) walLastsUptoCard

/-- THE SECOND FORM's CARD OF 'tontinelaw05.WalAnew'. -/
def walAnewUptoCard : Claim7 := { stood := { row := walAnewUptoRow, standIns := [], harness := (true, "4a15fedc4e040d8d9a9ac0cd7a160ddc13090f4c21fa2165f6dfa20b408a5e1f"), looks := false }, kinds := [], alts := [], laidByText := true, laidKinds := [.data], laidTests := true, laidLooks := .later }
def WalAnewUptoCardSaid : Prop := Claim7.holds Tryd.pinned (.plain (OpenSpec.upto walAnewSpec)) walAnewUptoCard

/-- THE SECOND FORM's CARD OF 'tontinelaw05.WalRefuses'. -/
def walRefusesUptoCard : Claim7 := { stood := { row := walRefusesUptoRow, standIns := [], harness := (true, "4a15fedc4e040d8d9a9ac0cd7a160ddc13090f4c21fa2165f6dfa20b408a5e1f"), looks := false }, kinds := [], alts := [], laidByText := true, laidKinds := [.data], laidTests := true, laidLooks := .later }
def WalRefusesUptoCardSaid : Prop := Claim7.holds Tryd.pinned (.plain (OpenSpec.upto walRefusesSpec)) walRefusesUptoCard

/-- THE SECOND FORM's CARD OF 'tontinelaw05.WalGrows'. -/
def walGrowsUptoCard : Claim7 := { stood := { row := walGrowsUptoRow, standIns := [], harness := (true, "4a15fedc4e040d8d9a9ac0cd7a160ddc13090f4c21fa2165f6dfa20b408a5e1f"), looks := false }, kinds := [], alts := [], laidByText := true, laidKinds := [.data], laidTests := true, laidLooks := .later }
def WalGrowsUptoCardSaid : Prop := Claim7.holds Tryd.pinned (.plain (OpenSpec.upto walGrowsSpec)) walGrowsUptoCard
end Rows
end Go.Proofs.YtmimpfccngihiaaDoor
