/- The walk of the statement that definitions are taken, or refused, as the document has it. -/
import Derived.Test.YtpcbmcjanapimaaBegun
import Derived.Test.YtpcbmcjanapimaaOpens
set_option linter.unusedVariables false
set_option linter.unusedSimpArgs false
namespace Go.Proofs.Ytpcbmcjanapimaa.LawA
open Go.RowKit Go.Proofs.Ytpcbmcjanapimaa.Kit Go.Proofs.Ytpcbmcjanapimaa.Stq Go.Proofs.Ytpcbmcjanapimaa.Pln Go.Proofs.Ytpcbmcjanapimaa.WalkA Go.Proofs.Ytpcbmcjanapimaa.WalkB Go.Proofs.Ytpcbmcjanapimaa.Begun Go.Proofs.Ytpcbmcjanapimaa.Opens

set_option maxHeartbeats 1000000 in
theorem checks_walk (A : Option Addr) (n c : Nat) (l : List Sp) (w : World) (h : CameS w A n c l) : Calls Try.prog 3 #[.slice A n c] w fun e w' => e = .returned (.bool true) ∧ Below w.heap.size w w' := by
  have hr := h.reads
  have h63 : n ≤ 9223372036854775807 := Nat.le_trans h.fits h.max
  have hnm : ∀ e ∈ l, e.nm.size ≤ 9223372036854775807 := fun e he => (h.sin e he).n
  obtain ⟨z, hz⟩ : ∃ z, chk l = z := ⟨_, rfl⟩
  have HZ := Lib.hid hz
  clear h hz
  go_enter Try.func3, Try.ntmps3
  go_wp2_with fail
  refine (begun_true _).mono ?_
  rintro e w1 ⟨rfl, hb1⟩
  have hr1 := rs_later hr hb1
  go_wp2_with fail
  with_reducible refine (check_any hr1 h63 hnm HZ).mono ?_
  rintro e w2 ⟨rfl, hb2⟩
  have hr2 := rs_later hr1 hb2
  have hB2 := hb1.trans (hb2.mono hb1.size)
  clear hr1 hb1 hb2
  go_wp2_with fail
  with_reducible refine (rcheck_any hr2 h63 hnm HZ).mono ?_
  rintro e w3 ⟨rfl, hb3⟩
  go_wp2
  go_ret
  exact ⟨rfl, hB2.trans (hb3.mono hB2.size)⟩
end Go.Proofs.Ytpcbmcjanapimaa.LawA
