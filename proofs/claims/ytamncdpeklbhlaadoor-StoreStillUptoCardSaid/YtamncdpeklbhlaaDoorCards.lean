/-
  DERIVED. GIVEN WITH THE SEED: THE CARDS: each row of YtamncdpeklbhlaaDoorRows.lean that lists a variable, with what it lists TIED to the program's text (the seventh form; the later family's looks); each row that meets fmt, with fmt's text TOLD by the authors' own Lean function (tested against real Go, not proved from fmt's source: count such statements apart). THE CARD IS WHAT COUNTS. Prove the row's statement (the work); the ties are given (YtamncdpeklbhlaaDoorTie.lean); close each card by the builder's one call (the guide's Derived/Test/ToyasCard.lean, 'card_holds'). Laid BY PROGRAM, IN A SANDBOX (cutbox-door.mjs). By AI agents, Wed Nov 11 2026. No macro, syntax, notation, axiom, sorry.
-/
import Derived.Test.YtamncdpeklbhlaaDoorRows
import GoSem.ClaimSeven
namespace Go.Proofs.YtamncdpeklbhlaaDoor
namespace Rows

/-- THE TIED CARD OF 'tontinelaw08.StoreAgain'. -/
def storeAgainCard : Claim7 := { stood := { row := storeAgainRow, standIns := [], harness := (true, "dc279053b09afdf862e17caeb8b89618b486bdb68462a7ce39e8e878e9868939"), looks := false }, kinds := [], alts := [], laidByText := true, laidKinds := [.data], laidTests := true, laidLooks := .later }
def StoreAgainCardSaid : Prop := Claim7.holds Tryd.pinned (.plain (OpenSpec.ofChange storeAgainSpec)) storeAgainCard

/-- THE TIED CARD OF 'tontinelaw08.StoreNone'. -/
def storeNoneCard : Claim7 := { stood := { row := storeNoneRow, standIns := [], harness := (true, "dc279053b09afdf862e17caeb8b89618b486bdb68462a7ce39e8e878e9868939"), looks := false }, kinds := [], alts := [], laidByText := true, laidKinds := [.data], laidTests := true, laidLooks := .later }
def StoreNoneCardSaid : Prop := Claim7.holds Tryd.pinned (.plain (OpenSpec.ofChange storeNoneSpec)) storeNoneCard

/-- THE TIED CARD OF 'tontinelaw08.StoreStill'. -/
def storeStillCard : Claim7 := { stood := { row := storeStillRow, standIns := [], harness := (true, "dc279053b09afdf862e17caeb8b89618b486bdb68462a7ce39e8e878e9868939"), looks := false }, kinds := [], alts := [], laidByText := true, laidKinds := [.data], laidTests := true, laidLooks := .later }
def StoreStillCardSaid : Prop := Claim7.holds Tryd.pinned (.plain (OpenSpec.ofChange storeStillSpec)) storeStillCard

/-- THE SECOND FORM's CARD OF 'tontinelaw08.StoreAgain'. -/
def storeAgainUptoCard : Claim7 := { stood := { row := storeAgainUptoRow, standIns := [], harness := (true, "dc279053b09afdf862e17caeb8b89618b486bdb68462a7ce39e8e878e9868939"), looks := false }, kinds := [], alts := [], laidByText := true, laidKinds := [.data], laidTests := true, laidLooks := .later }
def StoreAgainUptoCardSaid : Prop := Claim7.holds Tryd.pinned (.plain (OpenSpec.upto storeAgainSpec)) storeAgainUptoCard

/-- THE SECOND FORM's CARD OF 'tontinelaw08.StoreNone'. -/
def storeNoneUptoCard : Claim7 := { stood := { row := storeNoneUptoRow, standIns := [], harness := (true, "dc279053b09afdf862e17caeb8b89618b486bdb68462a7ce39e8e878e9868939"), looks := false }, kinds := [], alts := [], laidByText := true, laidKinds := [.data], laidTests := true, laidLooks := .later }
def StoreNoneUptoCardSaid : Prop := Claim7.holds Tryd.pinned (.plain (OpenSpec.upto storeNoneSpec)) storeNoneUptoCard

/-- THE SECOND FORM's CARD OF 'tontinelaw08.StoreStill'. -/
def storeStillUptoCard : Claim7 := { stood := { row := storeStillUptoRow, standIns := [], harness := (true, "dc279053b09afdf862e17caeb8b89618b486bdb68462a7ce39e8e878e9868939"), looks := false }, kinds := [], alts := [], laidByText := true, laidKinds := [.data], laidTests := true, laidLooks := .later }
def StoreStillUptoCardSaid : Prop := Claim7.holds Tryd.pinned (.plain (OpenSpec.upto storeStillSpec)) storeStillUptoCard
end Rows
end Go.Proofs.YtamncdpeklbhlaaDoor
