/- The statement on halves, walked. -/
import Derived.Test.YtopoecdcckhpiaaBegun
namespace Go.Proofs.Ytopoecdcckhpiaa.LawD
open Go.RowKit Go.Proofs.Ytopoecdcckhpiaa.Kit Go.Proofs.Ytopoecdcckhpiaa.Blocks Go.Proofs.Ytopoecdcckhpiaa.Quorum Go.Proofs.Ytopoecdcckhpiaa.WalkA Go.Proofs.Ytopoecdcckhpiaa.WalkB Go.Proofs.Ytopoecdcckhpiaa.WalkC Go.Proofs.Ytopoecdcckhpiaa.WalkD Go.Proofs.Ytopoecdcckhpiaa.Told Go.Proofs.Ytopoecdcckhpiaa.Sorting Go.Proofs.Ytopoecdcckhpiaa.Reach Go.Proofs.Ytopoecdcckhpiaa.RefReach Go.Proofs.Ytopoecdcckhpiaa.Change Go.Proofs.Ytopoecdcckhpiaa.Begun

theorem not_bit {s i : Nat} (hs : s < 2 ^ 64) (hi : i < 64) : (18446744073709551615 - s).testBit i = !s.testBit i := by
  have := Nat.testBit_two_pow_sub_succ hs i
  rw [show 2 ^ 64 - (s + 1) = 18446744073709551615 - s by omega] at this
  rw [this]
  simp [hi]
/-- The two parts of a set. -/
theorem halves (c s : Nat) (hs : s < 2 ^ 64) : size (c &&& s) + size (c &&& (18446744073709551615 - s)) = size c := by
  have h := num_and_or (fun i => c.testBit i && s.testBit i) (fun i => c.testBit i && (18446744073709551615 - s).testBit i)
  rw [← size_and, ← size_and] at h
  have h1 : (num fun i => (c.testBit i && s.testBit i) && (c.testBit i && (18446744073709551615 - s).testBit i)) = 0 := num_zero fun i hi => by
    rw [not_bit hs (by omega)]
    cases c.testBit i <;> cases s.testBit i <;> rfl
  have h2 : (num fun i => (c.testBit i && s.testBit i) || (c.testBit i && (18446744073709551615 - s).testBit i)) = size c := by
    rw [size_num]
    refine num_congr fun i hi => ?_
    rw [not_bit hs (by omega)]
    cases c.testBit i <;> cases s.testBit i <;> rfl
  omega

theorem not_eq (s : Nat) (hs : s < 2 ^ 64) : 18446744073709551615 ^^^ s = 18446744073709551615 - s := by
  refine Nat.eq_of_testBit_eq fun i => ?_
  have h1 := Nat.testBit_two_pow_sub_succ hs i
  rw [show 2 ^ 64 - (s + 1) = 18446744073709551615 - s by omega] at h1
  have h2 := Nat.testBit_two_pow_sub_one 64 i
  rw [show 2 ^ 64 - 1 = 18446744073709551615 by decide] at h2
  rw [Nat.testBit_xor, h1, h2]
  by_cases hi : i < 64
  · simp [hi]
  · have : s.testBit i = false := Nat.testBit_lt_two_pow (Nat.lt_of_lt_of_le hs (Nat.pow_le_pow_right (by decide) (by omega)))
    simp [hi, this]
theorem not_int (s : Nat) (hs : s < 2 ^ 64) : bits .xor .u64 IntKind.u64.max (s : Int) = ((18446744073709551615 - s : Nat) : Int) := by
  have := u64_xor_nat 18446744073709551615 s (by decide) hs
  rw [not_eq s hs] at this
  exact this

set_option maxHeartbeats 4000000 in
set_option maxRecDepth 100000 in
theorem halves_any (c s : Nat) (w : World) (hc : c < 2 ^ 64) (hs : s < 2 ^ 64) : Calls Try.prog 8 #[.int .u64 (c : Int), .int .u64 (s : Int)] w fun e w' => e = .returned (.bool true) ∧ Below w.heap.size w w' := by
  have hn := not_int s hs
  have hsum := halves c s hs
  have h1 := maj_any c s hc hs
  have h2 := maj_any c (18446744073709551615 - s) hc (by omega)
  have h3 := mem_any c hc
  have h4 := need_any c hc
  have h5 := maj_any c c hc hc
  have h7 := size_le c
  have hself : size (c &&& c) = size c := by rw [Nat.and_self]
  unfold maj at h1 h2 h5
  rw [hself] at h5
  have HL : Hid ((mem c).length = size c) := rfl
  have hneed : need c = size c / 2 + 1 := rfl
  generalize size (c &&& (18446744073709551615 - s)) = y at hsum h2
  generalize size (c &&& s) = x at hsum h1
  generalize 18446744073709551615 - s = t at hn h2
  generalize need c = k at hneed h1 h2 h4 h5
  obtain ⟨m, hm⟩ : ∃ m, size c = m := ⟨_, rfl⟩
  rw [hm] at HL hneed hsum h5 h7
  have hw : IntKind.i64.wrap ((m : Int) / 2 + 1) = (k : Int) := by
    rw [IntWalk.i64_in _ (by omega)]
    omega
  have hkk : ((k : Int) == (k : Int)) = true := by simp
  have htm : (m : Int).tmod 2 = ((m % 2 : Nat) : Int) := by
    rw [Int.tmod_eq_emod_of_nonneg (by omega)]
    push_cast
    rfl
  obtain ⟨z, hz⟩ : ∃ z, m % 2 = z := ⟨_, rfl⟩
  rw [hz] at htm
  have hall : ∀ (a b d : Bool), decide (k ≤ x) = a → decide (k ≤ y) = b → decide (k ≤ m) = d → (a = false ∨ b = false) ∧ (z = 0 ∨ (z = 1 ∧ a = !b)) ∧ (m = 0 ∨ d = true) := by
    intro a b d ha hb hd
    subst ha hb hd
    refine ⟨?_, ?_, ?_⟩
    · simp only [decide_eq_false_iff_not]; omega
    · by_cases h0 : z = 0
      · exact .inl h0
      · refine .inr ⟨by omega, ?_⟩
        by_cases ha : k ≤ x
        · have : ¬ k ≤ y := by omega
          simp [ha, this]
        · have : k ≤ y := by omega
          simp [ha, this]
    · simp only [decide_eq_true_eq]; omega
  obtain ⟨a, ha⟩ : ∃ a, decide (k ≤ x) = a := ⟨_, rfl⟩
  obtain ⟨b, hb⟩ : ∃ b, decide (k ≤ y) = b := ⟨_, rfl⟩
  obtain ⟨d, hd⟩ : ∃ d, decide (k ≤ m) = d := ⟨_, rfl⟩
  obtain ⟨q1, q2, q3⟩ := hall a b d ha hb hd
  rw [ha] at h1
  rw [hb] at h2
  rw [hd] at h5
  have HN := Lib.hid hn
  have hz2 : z = 0 ∨ z = 1 := by omega
  have HK := Lib.hid hneed
  clear hall ha hb hd hz hneed hsum hm hself
  have hsig : IntKind.u64.signed = false := rfl
  have H3 := Lib.hid h3
  have H4 := Lib.hid h4
  have H5 := Lib.hid h5
  have H1 := Lib.hid h1
  have H2 := Lib.hid h2
  clear h1 h2 h3 h4 h5
  have key : ∀ (a b d : Bool) (z : Nat), (m : Int).tmod 2 = (z : Int) → (a = true ∧ b = false ∨ a = false ∧ b = true ∨ a = false ∧ b = false ∧ z = 0) → (z = 0 ∨ z = 1) → (m = 0 ∨ d = true) →
      Hid (∀ (w : World), Calls Try.prog 19 #[.int .u64 (c : Int), .int .u64 (s : Int)] w fun e w' => e = .returned (.bool a) ∧ w = w') →
      Hid (∀ (w : World), Calls Try.prog 19 #[.int .u64 (c : Int), .int .u64 (t : Int)] w fun e w' => e = .returned (.bool b) ∧ w = w') →
      Hid (∀ (w : World), Calls Try.prog 19 #[.int .u64 (c : Int), .int .u64 (c : Int)] w fun e w' => e = .returned (.bool d) ∧ w = w') →
      Calls Try.prog 8 #[.int .u64 (c : Int), .int .u64 (s : Int)] w fun e w' => e = .returned (.bool true) ∧ Below w.heap.size w w' := by
    clear H1 H2 H5 q1 q2 q3 htm hz2
    clear z
    intro a b d z htm q1 hz2 q3 H1 H2 H5
    rcases hz2 with hz2 | hz2 <;> rcases q1 with ⟨rfl, rfl⟩ | ⟨rfl, rfl⟩ | ⟨rfl, rfl, hz0⟩
    all_goals try (exfalso; omega)
    all_goals
      rw [hz2] at htm
      go_enter Try.func8, Try.ntmps8
      go_wp2_with fail
      refine (begun_any _).mono ?_
      rintro e wa ⟨rfl, hba⟩
      go_wp2_with fail
      refine (H1.out _).mono ?_
      rintro e _ ⟨rfl, rfl⟩
      go_wp2_with fail
      refine (H2.out _).mono ?_
      rintro e _ ⟨rfl, rfl⟩
      go_wp2_with fail
      refine (H3.out _).mono ?_
      rintro e wb ⟨v, rfl, hown, hbb⟩
      rw [HL.out] at hown
      obtain ⟨A, c', rfl, _⟩ := own_form hown
      have hbz : Below w.heap.size w wb := hba.trans (hbb.mono hba.size)
      clear hown hba hbb
      by_cases hm0 : m = 0
      · obtain rfl : k = 1 := by have := HK.out; omega
        subst hm0
        clear HK
        go_wp2_with fail
        refine (H4.out _).mono ?_
        rintro e _ ⟨rfl, rfl⟩
        go_wp2
        go_ret
        exact ⟨rfl, hbz⟩
      · obtain rfl : d = true := q3.resolve_left hm0
        have hmz : ((m : Int) == 0) = false := by simp; omega
        go_wp2_with fail
        refine (H4.out _).mono ?_
        rintro e _ ⟨rfl, rfl⟩
        go_wp2_with fail
        refine (H5.out _).mono ?_
        rintro e _ ⟨rfl, rfl⟩
        go_wp2
        go_ret
        exact ⟨rfl, hbz⟩
  refine key a b d z htm ?_ hz2 q3 H1 H2 H5
  cases a <;> cases b <;> simp at q1 q2 ⊢ <;> omega
theorem halves_walk (x y : Int) (w : World) (hx : (Lit.int .u64 x).wf = true) (hy : (Lit.int .u64 y).wf = true) : Calls Try.prog 8 #[.int .u64 x, .int .u64 y] w fun e w' => e = .returned (.bool true) ∧ Below w.heap.size w w' := by
  obtain ⟨c, rfl, hc⟩ := u64_nat hx
  obtain ⟨s, rfl, hs⟩ := u64_nat hy
  exact halves_any c s w hc hs
end Go.Proofs.Ytopoecdcckhpiaa.LawD
