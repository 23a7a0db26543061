/- What the walks of layer 16's statements share. No statement is proved here. -/
import Derived.Test.YtoehjijnkbmgmaaBegun
import Derived.Test.YtoehjijnkbmgmaaWalkE
import Derived.Test.YtoehjijnkbmgmaaSame
set_option linter.unusedVariables false
set_option linter.unusedSimpArgs false
namespace Go.Proofs.Ytoehjijnkbmgmaa.Law
open Go.RowKit Go.Proofs.Ytoehjijnkbmgmaa.Kit Go.Proofs.Ytoehjijnkbmgmaa.Rdr Go.Proofs.Ytoehjijnkbmgmaa.Stq Go.Proofs.Ytoehjijnkbmgmaa.Pln Go.Proofs.Ytoehjijnkbmgmaa.Cmd Go.Proofs.Ytoehjijnkbmgmaa.CmdAt Go.Proofs.Ytoehjijnkbmgmaa.WalkA Go.Proofs.Ytoehjijnkbmgmaa.WalkB Go.Proofs.Ytoehjijnkbmgmaa.WalkC Go.Proofs.Ytoehjijnkbmgmaa.Dx Go.Proofs.Ytoehjijnkbmgmaa.WalkD Go.Proofs.Ytoehjijnkbmgmaa.WalkE Go.Proofs.Ytoehjijnkbmgmaa.Same Go.Proofs.Ytoehjijnkbmgmaa.Begun
open Go.Proofs.Ytoehjijnkbmgmaa.PckWalkH (str str_size str_append)

/-- What Decode answers, by names. -/
def DecI (w : World) (m : Cm) (z : Int) (e : Ending) (w' : World) : Prop := ∃ A n c, e = .returned (.tuple #[cmV A n c m, .int .i64 z]) ∧ CAt w' A n m ∧ Below w.heap.size w w'
theorem dec_lit {s : ByteArray} (hs : s.size ≤ 281474976710656) {m : Cm} {z : Int} (hm : dec s = m) (hz : decZ s = z) (w : World) : Calls Try.prog 14 #[.string s] w (DecI w m z) :=
  (dec_any s w hs).mono fun e w' ⟨A, n, c, h⟩ => ⟨A, n, c, by rw [← hm, ← hz]; exact h.1, by rw [← hm]; exact h.2.1, h.2.2⟩
theorem rdec_lit {s : ByteArray} (hs : s.size ≤ 281474976710656) {m : Cm} {z : Int} (hm : dec s = m) (hz : decZ s = z) (w : World) : Calls Try.prog 15 #[.string s] w (DecI w m z) :=
  (rdec_any s w hs).mono fun e w' ⟨A, n, c, h⟩ => ⟨A, n, c, by rw [← hm, ← hz]; exact h.1, by rw [← hm]; exact h.2.1, h.2.2⟩
theorem enc_may {w : World} {A : Option Addr} {n : Nat} (c : Nat) {m : Cm} (h : CAt w A n m) (hm : mayB m = true) {S : ByteArray} (hS : str (cmB m) = S) : Calls Try.prog 10 #[cmV A n c m] w (Enc w S 0) := by
  have := enc_any c h
  rw [encS_may hm, encZ_may hm, hS] at this
  exact this
theorem enc_not {w : World} {A : Option Addr} {n : Nat} (c : Nat) {m : Cm} (h : CAt w A n m) (hm : mayB m = false) {z : Int} (hz : encZ m = z) : Calls Try.prog 10 #[cmV A n c m] w (Enc w ⟨#[]⟩ z) := by
  have := enc_any c h
  rw [encS_not hm, hz] at this
  exact this
theorem may_size {m : Cm} (f : Fin m) (hm : mayB m = true) : (str (cmB m)).size ≤ 281474976710656 := by
  rw [str_size]
  have := cmB_le f hm
  omega
end Go.Proofs.Ytoehjijnkbmgmaa.Law
