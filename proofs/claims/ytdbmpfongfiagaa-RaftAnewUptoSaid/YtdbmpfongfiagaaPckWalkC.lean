/- What a reader's calls answer, walked: the number at the front. -/
import Derived.Test.YtdbmpfongfiagaaPckWalkB
import Derived.Lib.IndexBytes
namespace Go.Proofs.Ytdbmpfongfiagaa.PckWalkC
open Go.RowKit Go.Proofs.Ytdbmpfongfiagaa.Kit Go.Proofs.Ytdbmpfongfiagaa.Num Go.Proofs.Ytdbmpfongfiagaa.State Go.Proofs.Ytdbmpfongfiagaa.PckWalkA

/-- The same of strings. -/
def frontB (s : ByteArray) : Nat := front s.data.toList
def gotB (s : ByteArray) : Nat := got s.data.toList
def restB (s : ByteArray) : ByteArray := if frontB s = 0 then ByteArray.empty else s.extract (frontB s) s.size

theorem one_byte (s : ByteArray) (h : s.size = 1) : s.data.toList = [s[0]] := by
  have hl : s.data.toList.length = 1 := by rw [← Lib.size_eq]; exact h
  have h0 := Lib.data_getElem? s 0 (by omega)
  match hs : s.data.toList, hl with
  | [a], _ => rw [hs] at h0; simpa using h0
theorem frontB_none {s : ByteArray} (h : s.size = 0) : frontB s = 0 := by
  have hl : s.data.toList.length = 0 := by rw [← Lib.size_eq]; exact h
  unfold frontB
  rw [List.eq_nil_of_length_eq_zero hl]
  rfl
theorem frontB_one {s : ByteArray} (h : s.size = 1) : frontB s = if s[0].toNat = 0 then 1 else 0 := by
  unfold frontB
  rw [one_byte s h]
  simp only [front, List.length_nil]
  by_cases h0 : s[0].toNat = 0
  · rw [if_neg (by simp; omega), if_pos h0]; omega
  · rw [if_pos (by omega), if_neg h0]
theorem frontB_more {s : ByteArray} (h : 2 ≤ s.size) : frontB s = if 8 < s[0].toNat ∨ s.size < 1 + s[0].toNat ∨ (0 < s[0].toNat ∧ s[1].toNat = 0) then 0 else 1 + s[0].toNat := by
  obtain ⟨tl, ht⟩ := Lib.two_bytes s h
  have hl : s.data.toList.length = s.size := (Lib.size_eq s).symm
  unfold frontB
  rw [ht] at hl ⊢
  simp only [List.length_cons] at hl
  have e : (s[1] = 0) ↔ s[1].toNat = 0 := by rw [← UInt8.toNat_inj]; rfl
  simp only [front, List.length_cons, List.head?_cons, Option.some.injEq, e]
  by_cases hc : 8 < s[0].toNat ∨ s.size < 1 + s[0].toNat ∨ (0 < s[0].toNat ∧ s[1].toNat = 0)
  · rw [if_pos hc, if_pos (by omega)]
  · rw [if_neg hc, if_neg (by omega)]; omega
theorem frontB_le (s : ByteArray) : frontB s ≤ s.size := by rw [Lib.size_eq]; exact front_le _
theorem frontB_le9 (s : ByteArray) : frontB s ≤ 9 := front_le9 _
theorem gotB_lt (s : ByteArray) : gotB s < 18446744073709551616 := got_lt _

theorem ret_int {k : IntKind} {a b : Int} (h : a = b) : Ending.returned (.int k a) = .returned (.int k b) := by rw [h]

set_option maxRecDepth 100000 in
theorem len_any (s : ByteArray) (w : World) (hs : s.size ≤ 9223372036854775807) :
    Calls Try.prog 80 #[.string s] w fun e w' => e = .returned (.int .i64 (frontB s)) ∧ w = w' := by
  rcases Nat.lt_or_ge s.size 2 with h2 | h2
  · rcases Nat.lt_or_ge s.size 1 with h1 | h1
    · have h0 : s.size = 0 := by omega
      have HF := Lib.hid (frontB_none h0)
      rw [HF.out]
      go_enter Try.func80, Try.ntmps80
      go_wp2
      go_ret
      exact ⟨rfl, rfl⟩
    · have h0 : s.size = 1 := by omega
      have hf := frontB_one h0
      by_cases hc : s[0].toNat = 0
      · rw [if_pos hc] at hf
        have HF := Lib.hid hf
        rw [HF.out]
        clear hf
        go_enter Try.func80, Try.ntmps80
        go_wp2
        go_ret
        exact ⟨rfl, rfl⟩
      · rw [if_neg hc] at hf
        have HF := Lib.hid hf
        rw [HF.out]
        clear hf
        go_enter Try.func80, Try.ntmps80
        go_wp2
        all_goals go_ret
        all_goals exact ⟨rfl, rfl⟩
  · have hf := frontB_more h2
    have hne : ¬ s = ByteArray.empty := fun e => by rw [e] at h2; simp at h2
    have hz : ((s.size : Int) == 0) = false := by simp; omega
    have hb1 := s[0].toNat_lt
    have HF := Lib.hid hf
    clear hf
    go_enter Try.func80, Try.ntmps80
    go_wp2
    all_goals
      go_ret
      refine ⟨ret_int ?_, rfl⟩
      rw [HF.out]
      simp only [beq_iff_eq, beq_eq_false_iff_ne, ne_eq] at *
      split <;> omega
end Go.Proofs.Ytdbmpfongfiagaa.PckWalkC
