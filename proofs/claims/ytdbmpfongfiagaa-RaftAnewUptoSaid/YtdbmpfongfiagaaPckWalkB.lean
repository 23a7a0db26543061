/- What a writer's other calls leave, walked: numbers with a sign, truths, texts, all the bytes. -/
import Derived.Test.YtdbmpfongfiagaaPckWalkA
import Derived.Laws.BitsAllLaws
namespace Go.Proofs.Ytdbmpfongfiagaa.PckWalkB
open Go.RowKit Go.Proofs.Ytdbmpfongfiagaa.Kit Go.Proofs.Ytdbmpfongfiagaa.Num Go.Proofs.Ytdbmpfongfiagaa.State Go.Proofs.Ytdbmpfongfiagaa.PckWalkA

/-- All bits turned about. -/
theorem not_nat (q : Nat) (h : q < 18446744073709551616) : 18446744073709551615 ^^^ q = 18446744073709551615 - q := by
  have e : (18446744073709551615 : Nat) = 2 ^ 64 - 1 := by decide
  apply Nat.eq_of_testBit_eq
  intro i
  have h2 : (2 ^ 64 - (q + 1)).testBit i = (decide (i < 64) && !q.testBit i) := Nat.testBit_two_pow_sub_succ (by simpa using h) i
  have e3 : 18446744073709551615 - q = 2 ^ 64 - (q + 1) := by rw [e]; omega
  rw [e3, h2, Nat.testBit_xor, e, Nat.testBit_two_pow_sub_one]
  by_cases hi : i < 64
  · simp [hi]
  · have : q.testBit i = false := Nat.testBit_lt_two_pow (Nat.lt_of_lt_of_le h (by rw [show (18446744073709551616 : Nat) = 2 ^ 64 by decide]; exact Nat.pow_le_pow_right (by decide) (by omega)))
    simp [hi, this]

theorem num_hid (p : Nat) (v : Value) (l r : List UInt8) (x : Nat) (w : World) (h : WV w p v l) (hx : x < 18446744073709551616) (hl : l.length ≤ 140737488355000) (hr : Hid (l ++ num x = r)) :
    Calls Try.prog 68 #[.pointer (some ⟨p, 0, none⟩), .int .u64 (x : Int)] w (Wrote p v.ownBlock r w) := by
  have := num_any p v l x w h hx hl
  rwa [hr.out] at this

theorem twice_pos {x : Int} (h0 : 0 ≤ x) : x * 2 = (twice x : Int) := by unfold twice; rw [if_pos h0]; omega
theorem twice_neg {x : Int} (h0 : x < 0) (h1 : -9223372036854775808 ≤ x) : bits .xor .u64 IntKind.u64.max (IntKind.u64.wrap (IntKind.u64.wrap x * 2)) = (twice x : Int) := by
  obtain ⟨q, hq⟩ : ∃ q : Nat, IntKind.u64.wrap (IntKind.u64.wrap x * 2) = (q : Int) := ⟨_, (Int.toNat_of_nonneg (by rw [IntKind.wrap_u64]; omega)).symm⟩
  have hql : q < 18446744073709551616 := by rw [IntKind.wrap_u64] at hq; omega
  have hm : IntKind.u64.max = ((18446744073709551615 : Nat) : Int) := by decide
  rw [hq, hm, u64_xor_nat _ _ (by decide) hql, not_nat q hql]
  rw [IntKind.wrap_u64, IntKind.wrap_u64] at hq
  unfold twice
  rw [if_neg (by omega)]
  omega


/-- A truth as a number. -/
def bit (b : Bool) : Nat := if b then 1 else 0

/-- A text's bytes. -/
def text (s : ByteArray) : List UInt8 := num s.size ++ s.data.toList

set_option maxRecDepth 100000 in
theorem bytes_any (p : Nat) (v : Value) (l : List UInt8) (w : World) (h : WV w p v l) :
    Calls Try.prog 69 #[.pointer (some ⟨p, 0, none⟩)] w fun e w' => e = .returned (.string ⟨l.toArray⟩) ∧ w = w' := by
  have hcell := h.at_
  obtain ⟨A, c, rfl, _, _, hr⟩ := own_form h.own
  have hconv := run_string (P := Try.prog) 109 5 9 Try.underlying109 Try.underlying5 Try.underlying9 w _ A l.length c l hr
  clear hr
  go_enter Try.func69, Try.ntmps69
  go_wp2
  go_ret
  exact ⟨rfl, rfl⟩
end Go.Proofs.Ytdbmpfongfiagaa.PckWalkB
