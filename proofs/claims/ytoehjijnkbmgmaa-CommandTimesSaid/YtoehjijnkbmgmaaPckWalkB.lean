/- What a writer's other calls leave, walked: numbers with a sign, truths, texts, all the bytes. -/
import Derived.Test.YtoehjijnkbmgmaaPckWalkA
import Derived.Laws.BitsAllLaws
namespace Go.Proofs.Ytoehjijnkbmgmaa.PckWalkB
open Go.RowKit Go.Proofs.Ytoehjijnkbmgmaa.Kit Go.Proofs.Ytoehjijnkbmgmaa.Num Go.Proofs.Ytoehjijnkbmgmaa.State Go.Proofs.Ytoehjijnkbmgmaa.PckWalkA

/-- All bits turned about. -/
theorem not_nat (q : Nat) (h : q < 18446744073709551616) : 18446744073709551615 ^^^ q = 18446744073709551615 - q := by
  have e : (18446744073709551615 : Nat) = 2 ^ 64 - 1 := by decide
  apply Nat.eq_of_testBit_eq
  intro i
  have h2 : (2 ^ 64 - (q + 1)).testBit i = (decide (i < 64) && !q.testBit i) := Nat.testBit_two_pow_sub_succ (by simpa using h) i
  have e3 : 18446744073709551615 - q = 2 ^ 64 - (q + 1) := by rw [e]; omega
  rw [e3, h2, Nat.testBit_xor, e, Nat.testBit_two_pow_sub_one]
  by_cases hi : i < 64
  · simp [hi]
  · have : q.testBit i = false := Nat.testBit_lt_two_pow (Nat.lt_of_lt_of_le h (by rw [show (18446744073709551616 : Nat) = 2 ^ 64 by decide]; exact Nat.pow_le_pow_right (by decide) (by omega)))
    simp [hi, this]

theorem num_hid (p : Nat) (v : Value) (l r : List UInt8) (x : Nat) (w : World) (h : WV w p v l) (hx : x < 18446744073709551616) (hl : l.length ≤ 140737488355000) (hr : Hid (l ++ num x = r)) :
    Calls Try.prog 22 #[.pointer (some ⟨p, 0, none⟩), .int .u64 (x : Int)] w (Wrote p v.ownBlock r w) := by
  have := num_any p v l x w h hx hl
  rwa [hr.out] at this

theorem twice_pos {x : Int} (h0 : 0 ≤ x) : x * 2 = (twice x : Int) := by unfold twice; rw [if_pos h0]; omega
theorem twice_neg {x : Int} (h0 : x < 0) (h1 : -9223372036854775808 ≤ x) : bits .xor .u64 IntKind.u64.max (IntKind.u64.wrap (IntKind.u64.wrap x * 2)) = (twice x : Int) := by
  obtain ⟨q, hq⟩ : ∃ q : Nat, IntKind.u64.wrap (IntKind.u64.wrap x * 2) = (q : Int) := ⟨_, (Int.toNat_of_nonneg (by rw [IntKind.wrap_u64]; omega)).symm⟩
  have hql : q < 18446744073709551616 := by rw [IntKind.wrap_u64] at hq; omega
  have hm : IntKind.u64.max = ((18446744073709551615 : Nat) : Int) := by decide
  rw [hq, hm, u64_xor_nat _ _ (by decide) hql, not_nat q hql]
  rw [IntKind.wrap_u64, IntKind.wrap_u64] at hq
  unfold twice
  rw [if_neg (by omega)]
  omega


/-- A truth as a number. -/
def bit (b : Bool) : Nat := if b then 1 else 0
set_option maxRecDepth 100000 in
theorem bool_any (p : Nat) (v : Value) (l : List UInt8) (x : Bool) (w : World) (h : WV w p v l) (hl : l.length ≤ 140737488355000) :
    Calls Try.prog 24 #[.pointer (some ⟨p, 0, none⟩), .bool x] w (Wrote p v.ownBlock (l ++ num (bit x)) w) := by
  cases x
  · go_enter Try.func24, Try.ntmps24
    go_wp2_with fail
    refine (num_any p v l 0 _ h (by decide) hl).mono ?_
    rintro e w1 ⟨rfl, v1, hwv1, hst1⟩
    go_wp2
    go_ret
    exact ⟨rfl, v1, hwv1, hst1⟩
  · go_enter Try.func24, Try.ntmps24
    go_wp2_with fail
    refine (num_any p v l 1 _ h (by decide) hl).mono ?_
    rintro e w1 ⟨rfl, v1, hwv1, hst1⟩
    go_wp2
    go_ret
    exact ⟨rfl, v1, hwv1, hst1⟩

/-- A text's bytes. -/
def text (s : ByteArray) : List UInt8 := num s.size ++ s.data.toList
set_option maxRecDepth 100000 in
theorem text_any (p : Nat) (v : Value) (l : List UInt8) (s : ByteArray) (w : World) (h : WV w p v l) (hl : l.length + s.size ≤ 140737488355000) :
    Calls Try.prog 45 #[.pointer (some ⟨p, 0, none⟩), .string s] w (Wrote p v.ownBlock (l ++ text s) w) := by
  obtain ⟨i0, hi0, hz0, hz1, hz2⟩ := info_parts info8
  have hs64 : s.size < 18446744073709551616 := by omega
  have hsl : s.size ≤ 140737488355000 := by omega
  have h9 : (num s.size).length ≤ 9 := by rw [num_length]; have := wide_le8 hs64; omega
  obtain ⟨L, hL⟩ : ∃ L, l ++ num s.size = L := ⟨_, rfl⟩
  have hll : L.length ≤ l.length + 9 := by rw [← hL, List.length_append]; omega
  have HL := Lib.hid hL
  clear hL h9
  go_enter Try.func45, Try.ntmps45
  go_wp2_with fail
  refine (num_hid p v l L s.size _ h hs64 (by omega) HL).mono ?_
  rintro e w1 ⟨rfl, v1, hwv1, hst1⟩
  have hcell := hwv1.at_
  have hlt := hwv1.lt
  have hown := hwv1.own
  have hm1 : L.length + s.size ≤ maxLen := by unfold maxLen; omega
  have hs1 : L.length + s.size ≤ 140737488355328 := by omega
  go_wp2_with (first
    | (at_builtin
       refine wpList_append_text _ rfl (.tmp 16) (.tmp 17) _ _ rfl (p + 1) 5 i0 Try.underlying50 Try.underlying9 hi0 hz0 hz1 hz2 v1 L.length (vals L) rfl hown s rfl hm1 hs1 (by omega) ?_
       intro A c w2 hown2 hg2 hat2
       obtain ⟨hc2, hf2, hwv2, hst2⟩ := some_more (w := w) hwv1 hst1 hown2 (by simp) hg2 hat2
       clear hown2 hg2 hat2))
  go_ret
  refine ⟨rfl, _, ?_, hst2⟩
  unfold text
  rw [← List.append_assoc, HL.out]
  exact hwv2

set_option maxRecDepth 100000 in
theorem bytes_any (p : Nat) (v : Value) (l : List UInt8) (w : World) (h : WV w p v l) :
    Calls Try.prog 25 #[.pointer (some ⟨p, 0, none⟩)] w fun e w' => e = .returned (.string ⟨l.toArray⟩) ∧ w = w' := by
  have hcell := h.at_
  obtain ⟨A, c, rfl, _, _, hr⟩ := own_form h.own
  have hconv := run_string (P := Try.prog) 50 5 9 Try.underlying50 Try.underlying5 Try.underlying9 w _ A l.length c l hr
  clear hr
  go_enter Try.func25, Try.ntmps25
  go_wp2
  go_ret
  exact ⟨rfl, rfl⟩
end Go.Proofs.Ytoehjijnkbmgmaa.PckWalkB
