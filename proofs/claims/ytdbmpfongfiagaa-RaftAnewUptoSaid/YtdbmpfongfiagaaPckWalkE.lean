/- What a reader's other calls answer, walked: numbers with a sign, up to a limit, truths, texts, what is left. -/
import Derived.Test.YtdbmpfongfiagaaPckWalkD
import Derived.Deep.QuietTactic
import Derived.BigQuiet
namespace Go.Proofs.Ytdbmpfongfiagaa.PckWalkE
open Go.RowKit Go.Proofs.Ytdbmpfongfiagaa.Kit Go.Proofs.Ytdbmpfongfiagaa.Num Go.Proofs.Ytdbmpfongfiagaa.State Go.Proofs.Ytdbmpfongfiagaa.PckWalkA Go.Proofs.Ytdbmpfongfiagaa.PckWalkC Go.Proofs.Ytdbmpfongfiagaa.PckWalkD

/-- A number that a reader gives, by a name. -/
theorem num_hid (q g : Nat) (s r : ByteArray) (bad b : Bool) (w : World) (h : R w q s bad) (hs : s.size ≤ 9223372036854775807) (hg : Hid (gotB s = g)) (hr : Hid (restB s = r)) (hb : Hid (badB s bad = b)) :
    Calls Try.prog 67 #[.pointer (some ⟨q, 0, none⟩)] w (TookR q r b (.int .u64 g) w) := by
  have := num_any q s bad w h hs
  rwa [hg.out, hr.out, hb.out] at this

theorem and_one (g : Nat) (h : g < 18446744073709551616) : bits .and .u64 (g : Int) 1 = ((g % 2 : Nat) : Int) := by
  have := u64_and_nat g 1 h (by decide)
  rw [nat_mask1] at this
  simpa using this
theorem half_even {g : Nat} (h : g % 2 = 0) : half g = (g : Int) / 2 := by unfold half; rw [if_pos h]; omega
theorem not_i64 (m : Nat) (hm : m < 9223372036854775808) : bits .xor .i64 (-1) (m : Int) = -(m : Int) - 1 := by
  show IntKind.i64.wrap ((BitVec.ofInt 64 (-1) ^^^ BitVec.ofInt 64 (m : Int)).toNat : Int) = _
  have e : (BitVec.ofInt 64 (-1)).toNat = 18446744073709551615 := by decide
  rw [BitVec.toNat_xor, ofInt_u64 m (by omega), e, PckWalkB.not_nat m (by omega)]
  have e2 : ((18446744073709551615 - m : Nat) : Int) = 18446744073709551615 - (m : Int) := by omega
  rw [e2, IntKind.wrap_i64]
  omega
theorem half_odd {g : Nat} (h : g % 2 = 1) : -((g : Int) / 2) - 1 = half g := by unfold half; rw [if_neg (by omega)]; omega


/-! ### Up to a limit -/
def upOk (s : ByteArray) (limit : Int) : Bool := decide (0 ≤ limit ∧ (gotB s : Int) ≤ limit)
def upV (s : ByteArray) (limit : Int) : Nat := if upOk s limit then gotB s else 0
def upR (s : ByteArray) (limit : Int) : ByteArray := if upOk s limit then restB s else ByteArray.empty
def upB (s : ByteArray) (bad : Bool) (limit : Int) : Bool := if upOk s limit then badB s bad else true
theorem upV_le (s : ByteArray) (limit : Int) : (upV s limit : Int) ≤ 9223372036854775807 ∨ 9223372036854775807 < limit := by
  unfold upV
  split
  · rename_i h
    unfold upOk at h
    simp only [decide_eq_true_eq] at h
    omega
  · left; decide
theorem upR_le (s : ByteArray) (limit : Int) : (upR s limit).size ≤ s.size := by
  unfold upR
  split
  · exact restB_le s
  · simp



/-- A truth. -/
def truth (s : ByteArray) : Bool := decide (upV s 1 = 1)

/-! ### A text -/
def textOk (s : ByteArray) (limit : Int) : Bool := decide (upV s limit ≤ (upR s limit).size)
def textV (s : ByteArray) (limit : Int) : ByteArray := if textOk s limit then (upR s limit).extract 0 (upV s limit) else ByteArray.empty
def textR (s : ByteArray) (limit : Int) : ByteArray := if textOk s limit then (upR s limit).extract (upV s limit) (upR s limit).size else ByteArray.empty
def textB (s : ByteArray) (bad : Bool) (limit : Int) : Bool := if textOk s limit then upB s bad limit else true

end Go.Proofs.Ytdbmpfongfiagaa.PckWalkE
