/- What the small calls on sets answer, walked: isNode, only, Sound, Has, OnesCount64, size, Need, Majority; the document's Sound and Has. -/
import Derived.Test.YtndehdnffajigaaRows
import Derived.Test.YtndehdnffajigaaKit
import Derived.Test.YtndehdnffajigaaQuorum
import Derived.Laws.BitsAll
import Derived.Deep.QuietTactic
import Derived.BigQuiet
import Derived.BigRegion
import Derived.WalkKit
import Derived.WalkSpells
import Derived.IntWalk
import Derived.LoopTactic
import Derived.Outline
namespace Go.Proofs.Ytndehdnffajigaa.QuoWalkA
open Go.RowKit Go.Proofs.Ytndehdnffajigaa.Kit Go.Proofs.Ytndehdnffajigaa.Quorum

theorem ret_b {a b : Bool} (h : a = b) : Ending.returned (.bool a) = .returned (.bool b) := by rw [h]
theorem ret_i {a b : Int} (h : a = b) : Ending.returned (.int .i64 a) = .returned (.int .i64 b) := by rw [h]
theorem ret_u {a b : Int} (h : a = b) : Ending.returned (.int .u64 a) = .returned (.int .u64 b) := by rw [h]


theorem wrap_u64 (x : Nat) (h : x < 2 ^ 64) : IntKind.u64.wrap (x : Int) = (x : Int) := IntWalk.u64_in _ (by omega)
theorem pow_lt (i : Nat) (hi : i < 7) : 2 ^ i < 128 := Nat.pow_lt_pow_right (by decide) hi

theorem over (c d : Nat) (hc : c < 2 ^ 64) (hd : c &&& (18446744073709551615 - 127) = d) : d = 0 ↔ c < 128 := by
  have h1 : d / 2 ^ 7 = c / 2 ^ 7 := by
    rw [← hd, Nat.and_div_two_pow]
    have := Nat.and_two_pow_sub_one_eq_mod (c / 2 ^ 7) 57
    rw [Nat.mod_eq_of_lt (by omega)] at this
    exact this
  have h2 : d % 2 ^ 7 = 0 := by
    rw [← hd, Nat.and_mod_two_pow]
    exact Nat.and_zero _
  omega
set_option maxRecDepth 100000 in
theorem sound_any (c : Nat) (hc : c < 2 ^ 64) (w : World) : Calls Try.prog 29 #[.int .u64 (c : Int)] w fun e w' => e = .returned (.bool (sound c)) ∧ w = w' := by
  by_cases h0 : c = 0
  · subst h0
    go_enter Try.func29, Try.ntmps29
    go_wp2
    go_ret
    exact ⟨rfl, rfl⟩
  · obtain ⟨d, hd⟩ : ∃ d, c &&& (18446744073709551615 - 127) = d := ⟨_, rfl⟩
    have hb : bits .andNot .u64 (c : Int) 127 = (d : Int) := by
      have := u64_andNot_nat c 127 hc (by decide)
      rw [hd] at this
      exact this
    have ho := over c d hc hd
    have hn : ((c : Int) != 0) = true := by simp; omega
    clear hd
    by_cases h1 : d = 0
    · have HS : Hid (sound c = true) := Lib.hid (by simp [sound, ho.1 h1]; omega)
      have hb0 : bits .andNot .u64 (c : Int) 127 = 0 := by rw [hb, h1]; rfl
      clear ho hb
      go_enter Try.func29, Try.ntmps29
      go_wp2
      go_ret
      exact ⟨ret_b HS.out.symm, rfl⟩
    · have HS : Hid (sound c = false) := Lib.hid (by simp only [sound, decide_eq_false_iff_not]; intro e; exact h1 (ho.2 e.2))
      have hd0 : ((d : Int) == 0) = false := by simp; omega
      clear ho
      go_enter Try.func29, Try.ntmps29
      go_wp2
      go_ret
      exact ⟨ret_b HS.out.symm, rfl⟩
set_option maxRecDepth 100000 in
theorem rsound_any (c : Nat) (hc : c < 2 ^ 64) (w : World) : Calls Try.prog 31 #[.int .u64 (c : Int)] w fun e w' => e = .returned (.bool (sound c)) ∧ w = w' := by
  by_cases h0 : 0 < c
  · by_cases h1 : c < 128
    · have HS : Hid (sound c = true) := Lib.hid (by simp [sound, h0, h1])
      have h1' : decide ((c : Int) < 128) = true := decide_eq_true (by omega)
      go_enter Try.func31, Try.ntmps31
      go_wp2
      go_ret
      exact ⟨ret_b HS.out.symm, rfl⟩
    · have HS : Hid (sound c = false) := Lib.hid (by simp [sound, h1])
      have h1' : decide ((c : Int) < 128) = false := decide_eq_false (by omega)
      go_enter Try.func31, Try.ntmps31
      go_wp2
      go_ret
      exact ⟨ret_b HS.out.symm, rfl⟩
  · have HS : Hid (sound c = false) := Lib.hid (by simp [sound, h0])
    go_enter Try.func31, Try.ntmps31
    go_wp2
    go_ret
    exact ⟨ret_b HS.out.symm, rfl⟩

/-- The library's own count, step by step. -/
def s1 (x : Nat) : Nat := x / 2 &&& 6148914691236517205
def s2 (x : Nat) : Nat := x &&& 6148914691236517205
def s3 (y : Nat) : Nat := y / 4 &&& 3689348814741910323
def s4 (y : Nat) : Nat := y &&& 3689348814741910323
theorem steps : ∀ x, x < 128 → s1 x + s2 x < 256 ∧ s3 (s1 x + s2 x) + s4 (s1 x + s2 x) < 256 ∧
    (let z := s3 (s1 x + s2 x) + s4 (s1 x + s2 x); (z / 16 + z) &&& 1085102592571150095 = size x) := by decide +kernel
end Go.Proofs.Ytndehdnffajigaa.QuoWalkA
