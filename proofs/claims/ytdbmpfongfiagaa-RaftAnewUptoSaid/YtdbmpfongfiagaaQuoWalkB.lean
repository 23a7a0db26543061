/- What Has, size, Need and Majority answer, walked; the document's Has. -/
import Derived.Test.YtdbmpfongfiagaaQuoWalkA
namespace Go.Proofs.Ytdbmpfongfiagaa.QuoWalkB
open Go.RowKit Go.Proofs.Ytdbmpfongfiagaa.Kit Go.Proofs.Ytdbmpfongfiagaa.Quorum Go.Proofs.Ytdbmpfongfiagaa.QuoWalkA

theorem node_nat {n : Int} (h : node n = true) : ∃ i : Nat, n = (i : Int) ∧ i < 7 := by
  have := of_decide_eq_true h
  exact ⟨n.toNat, by omega, by omega⟩
theorem node_of {i : Nat} (h : i < 7) : node (i : Int) = true := decide_eq_true (by omega)
theorem has_nat (c : Nat) {i : Nat} (h : i < 7) : has c (i : Int) = c.testBit i := by unfold has; rw [node_of h]; simp
theorem has_no {c : Nat} {n : Int} (h : node n = false) : has c n = false := by unfold has; rw [h]; rfl
theorem and_pow (c i : Nat) : c &&& 2 ^ i = 0 ↔ c.testBit i = false := by
  constructor
  · intro e
    cases h : c.testBit i with
    | false => rfl
    | true => exact absurd e (and_pos h Nat.testBit_two_pow_self)
  · intro h
    refine Nat.eq_of_testBit_eq fun j => ?_
    rw [Nat.testBit_and, Nat.testBit_two_pow, Nat.zero_testBit]
    by_cases e : i = j
    · subst e
      simp [h]
    · simp [e]

set_option maxRecDepth 100000 in
theorem has_any (c : Nat) (hc : c < 2 ^ 64) (n : Int) (w : World) : Calls Try.prog 41 #[.int .u64 (c : Int), .int .i64 n] w fun e w' => e = .returned (.bool (has c n)) ∧ w = w' := by
  cases hn : node n with
  | false =>
    have HN := Lib.hid hn
    have HH := Lib.hid (has_no (c := c) hn)
    clear hn
    go_enter Try.func41, Try.ntmps41
    go_wp2_with (go_at_call 60; refine (node_hid HN _).mono ?_; rintro e w1 ⟨rfl, rfl⟩)
    go_ret
    exact ⟨ret_b HH.out.symm, rfl⟩
  | true =>
    obtain ⟨i, rfl, hi⟩ := node_nat hn
    have HN := Lib.hid hn
    have HH := Lib.hid (has_nat c hi)
    have hp := pow_lt i hi
    obtain ⟨q, hq⟩ : ∃ q, 2 ^ i = q := ⟨_, rfl⟩
    have ho := fun w => only_any i hi w
    have hz := and_pow c i
    simp only [hq] at ho hz hp
    have hb : bits .and .u64 (c : Int) (q : Int) = ((c &&& q : Nat) : Int) := u64_and_nat c q hc (by omega)
    obtain ⟨d, hd⟩ : ∃ d, c &&& q = d := ⟨_, rfl⟩
    rw [hd] at hb hz
    have hneq : ((d : Int) != 0) = c.testBit i := by
      cases ht : c.testBit i with
      | false => have := hz.2 ht; subst this; rfl
      | true =>
        have : d ≠ 0 := fun e => by rw [hz.1 e] at ht; cases ht
        simp
        omega
    have HQ := Lib.hid hneq
    have HO := Lib.hid ho
    clear hn hz hneq hq hd hp ho
    go_enter Try.func41, Try.ntmps41
    go_wp2_with (first
      | (go_at_call 60; refine (node_hid HN _).mono ?_; rintro e w1 ⟨rfl, rfl⟩)
      | (go_at_call 61; refine (HO.out _).mono ?_; rintro e w2 ⟨rfl, rfl⟩))
    go_ret
    exact ⟨ret_b (by rw [HQ.out, HH.out]), rfl⟩


set_option maxRecDepth 100000 in
theorem size_any (x : Nat) (hx : x < 2 ^ 64) (w : World) : Calls Try.prog 63 #[.int .u64 (x : Int)] w fun e w' => e = .returned (.int .i64 (size x : Nat)) ∧ w = w' := by
  have hs := size_cut x
  obtain ⟨d, hd⟩ : ∃ d, x &&& 127 = d := ⟨_, rfl⟩
  have hb : bits .and .u64 (x : Int) 127 = (d : Int) := by
    have := u64_and_nat x 127 hx (by omega)
    rw [hd] at this
    exact this
  have hl : d < 128 := by rw [← hd, cut]; omega
  rw [hd] at hs
  have ho := ones_any d hl
  rw [hs] at ho
  clear hs hd
  go_enter Try.func63, Try.ntmps63
  go_wp2_with (go_at_call 79; refine (ho _).mono ?_; rintro e w1 ⟨rfl, rfl⟩)
  go_ret
  exact ⟨rfl, rfl⟩

set_option maxRecDepth 100000 in
theorem need_any (c : Nat) (hc : c < 2 ^ 64) (w : World) : Calls Try.prog 64 #[.int .u64 (c : Int)] w fun e w' => e = .returned (.int .i64 (need c : Nat)) ∧ w = w' := by
  have hs := size_any c hc
  have hl := size_le c
  have HN : Hid (need c = size c / 2 + 1) := rfl
  obtain ⟨s, hs0⟩ : ∃ s, size c = s := ⟨_, rfl⟩
  rw [hs0] at hs hl HN
  have hw : IntKind.i64.wrap ((s : Int) / 2 + 1) = (s : Int) / 2 + 1 := IntWalk.i64_in _ (by omega)
  clear hs0
  go_enter Try.func64, Try.ntmps64
  go_wp2_with (go_at_call 63; refine (hs _).mono ?_; rintro e w1 ⟨rfl, rfl⟩)
  go_ret
  exact ⟨ret_i (by rw [HN.out]; simp), rfl⟩

set_option maxRecDepth 100000 in
theorem maj_any (c s : Nat) (hc : c < 2 ^ 64) (hs : s < 2 ^ 64) (w : World) : Calls Try.prog 45 #[.int .u64 (c : Int), .int .u64 (s : Int)] w fun e w' => e = .returned (.bool (maj c s)) ∧ w = w' := by
  have hb : bits .and .u64 (c : Int) (s : Int) = ((c &&& s : Nat) : Int) := u64_and_nat c s hc hs
  have hz := size_any (c &&& s) (Nat.and_lt_two_pow _ hs)
  have hn := need_any c hc
  have HM : Hid (maj c s = decide (need c ≤ size (c &&& s))) := rfl
  generalize size (c &&& s) = k at hz HM
  generalize c &&& s = d at hb hz
  generalize need c = m at hn HM
  go_enter Try.func45, Try.ntmps45
  go_wp2_with (first
    | (go_at_call 63; refine (hz _).mono ?_; rintro e w1 ⟨rfl, rfl⟩)
    | (go_at_call 64; refine (hn _).mono ?_; rintro e w2 ⟨rfl, rfl⟩))
  go_ret
  exact ⟨ret_b HM.out.symm, rfl⟩
end Go.Proofs.Ytdbmpfongfiagaa.QuoWalkB
