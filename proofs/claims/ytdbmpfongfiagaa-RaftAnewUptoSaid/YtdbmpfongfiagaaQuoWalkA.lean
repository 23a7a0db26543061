/- What the small calls on sets answer, walked: isNode, only, Sound, Has, OnesCount64, size, Need, Majority; the document's Sound and Has. -/
import Derived.Test.YtdbmpfongfiagaaRows
import Derived.Test.YtdbmpfongfiagaaKit
import Derived.Test.YtdbmpfongfiagaaQuorum
import Derived.Laws.BitsAll
import Derived.Deep.QuietTactic
import Derived.BigQuiet
import Derived.BigRegion
import Derived.WalkKit
import Derived.WalkSpells
import Derived.IntWalk
import Derived.LoopTactic
import Derived.Outline
namespace Go.Proofs.Ytdbmpfongfiagaa.QuoWalkA
open Go.RowKit Go.Proofs.Ytdbmpfongfiagaa.Kit Go.Proofs.Ytdbmpfongfiagaa.Quorum

theorem ret_b {a b : Bool} (h : a = b) : Ending.returned (.bool a) = .returned (.bool b) := by rw [h]
theorem ret_i {a b : Int} (h : a = b) : Ending.returned (.int .i64 a) = .returned (.int .i64 b) := by rw [h]
theorem ret_u {a b : Int} (h : a = b) : Ending.returned (.int .u64 a) = .returned (.int .u64 b) := by rw [h]

set_option maxRecDepth 100000 in
theorem node_any (n : Int) (w : World) : Calls Try.prog 60 #[.int .i64 n] w fun e w' => e = .returned (.bool (node n)) ∧ w = w' := by
  by_cases h0 : 0 ≤ n
  · by_cases h1 : n < 7
    · have hn : node n = true := by simp [node, h0, h1]
      have HN := Lib.hid hn
      clear hn
      go_enter Try.func60, Try.ntmps60
      go_wp2
      go_ret
      exact ⟨ret_b HN.out.symm, rfl⟩
    · have hn : node n = false := by simp [node, h1]
      have HN := Lib.hid hn
      clear hn
      go_enter Try.func60, Try.ntmps60
      go_wp2
      go_ret
      exact ⟨ret_b HN.out.symm, rfl⟩
  · have hn : node n = false := by simp [node, h0]
    have HN := Lib.hid hn
    clear hn
    go_enter Try.func60, Try.ntmps60
    go_wp2
    go_ret
    exact ⟨ret_b HN.out.symm, rfl⟩
theorem node_hid {n : Int} {b : Bool} (h : Hid (node n = b)) (w : World) : Calls Try.prog 60 #[.int .i64 n] w fun e w' => e = .returned (.bool b) ∧ w = w' := by
  have := node_any n w
  rwa [h.out] at this

theorem wrap_u64 (x : Nat) (h : x < 2 ^ 64) : IntKind.u64.wrap (x : Int) = (x : Int) := IntWalk.u64_in _ (by omega)
theorem pow_lt (i : Nat) (hi : i < 7) : 2 ^ i < 128 := Nat.pow_lt_pow_right (by decide) hi
set_option maxRecDepth 100000 in
theorem only_any (i : Nat) (hi : i < 7) (w : World) : Calls Try.prog 61 #[.int .i64 (i : Int)] w fun e w' => e = .returned (.int .u64 ((2 ^ i : Nat) : Int)) ∧ w = w' := by
  have hp := pow_lt i hi
  have hw : IntKind.u64.wrap (2 ^ i) = ((2 ^ i : Nat) : Int) := by
    have := wrap_u64 (2 ^ i) (by omega)
    rw [← this, Int.natCast_pow]
    rfl
  have HW := Lib.hid hw
  clear hw
  go_enter Try.func61, Try.ntmps61
  go_wp2
  go_ret
  exact ⟨ret_u HW.out, rfl⟩

theorem over (c d : Nat) (hc : c < 2 ^ 64) (hd : c &&& (18446744073709551615 - 127) = d) : d = 0 ↔ c < 128 := by
  have h1 : d / 2 ^ 7 = c / 2 ^ 7 := by
    rw [← hd, Nat.and_div_two_pow]
    have := Nat.and_two_pow_sub_one_eq_mod (c / 2 ^ 7) 57
    rw [Nat.mod_eq_of_lt (by omega)] at this
    exact this
  have h2 : d % 2 ^ 7 = 0 := by
    rw [← hd, Nat.and_mod_two_pow]
    exact Nat.and_zero _
  omega
set_option maxRecDepth 100000 in
theorem sound_any (c : Nat) (hc : c < 2 ^ 64) (w : World) : Calls Try.prog 15 #[.int .u64 (c : Int)] w fun e w' => e = .returned (.bool (sound c)) ∧ w = w' := by
  by_cases h0 : c = 0
  · subst h0
    go_enter Try.func15, Try.ntmps15
    go_wp2
    go_ret
    exact ⟨rfl, rfl⟩
  · obtain ⟨d, hd⟩ : ∃ d, c &&& (18446744073709551615 - 127) = d := ⟨_, rfl⟩
    have hb : bits .andNot .u64 (c : Int) 127 = (d : Int) := by
      have := u64_andNot_nat c 127 hc (by decide)
      rw [hd] at this
      exact this
    have ho := over c d hc hd
    have hn : ((c : Int) != 0) = true := by simp; omega
    clear hd
    by_cases h1 : d = 0
    · have HS : Hid (sound c = true) := Lib.hid (by simp [sound, ho.1 h1]; omega)
      have hb0 : bits .andNot .u64 (c : Int) 127 = 0 := by rw [hb, h1]; rfl
      clear ho hb
      go_enter Try.func15, Try.ntmps15
      go_wp2
      go_ret
      exact ⟨ret_b HS.out.symm, rfl⟩
    · have HS : Hid (sound c = false) := Lib.hid (by simp only [sound, decide_eq_false_iff_not]; intro e; exact h1 (ho.2 e.2))
      have hd0 : ((d : Int) == 0) = false := by simp; omega
      clear ho
      go_enter Try.func15, Try.ntmps15
      go_wp2
      go_ret
      exact ⟨ret_b HS.out.symm, rfl⟩
set_option maxRecDepth 100000 in
theorem nan_any (c : Nat) (w : World) : Calls Try.prog 86 #[.int .u64 (c : Int)] w fun e w' => e = .returned (.bool false) ∧ w = w' := by
  go_enter Try.func86, Try.ntmps86
  go_wp2
  go_ret
  exact ⟨rfl, rfl⟩

/-- The library's own count, step by step. -/
def s1 (x : Nat) : Nat := x / 2 &&& 6148914691236517205
def s2 (x : Nat) : Nat := x &&& 6148914691236517205
def s3 (y : Nat) : Nat := y / 4 &&& 3689348814741910323
def s4 (y : Nat) : Nat := y &&& 3689348814741910323
theorem steps : ∀ x, x < 128 → s1 x + s2 x < 256 ∧ s3 (s1 x + s2 x) + s4 (s1 x + s2 x) < 256 ∧
    (let z := s3 (s1 x + s2 x) + s4 (s1 x + s2 x); (z / 16 + z) &&& 1085102592571150095 = size x) := by decide +kernel
set_option maxRecDepth 100000 in
theorem ones_any (x : Nat) (hx : x < 128) (w : World) : Calls Try.prog 79 #[.int .u64 (x : Int)] w fun e w' => e = .returned (.int .i64 (size x : Nat)) ∧ w = w' := by
  obtain ⟨k1, k2, k3⟩ := steps x hx
  have e1 : bits .and .u64 ((x : Int) / 2) 6148914691236517205 = ((s1 x : Nat) : Int) := by
    have := u64_and_nat (x / 2) 6148914691236517205 (by omega) (by omega)
    simpa [s1] using this
  have e2 : bits .and .u64 (x : Int) 6148914691236517205 = ((s2 x : Nat) : Int) := by
    have := u64_and_nat x 6148914691236517205 (by omega) (by omega)
    simpa [s2] using this
  obtain ⟨a, ha⟩ : ∃ a, s1 x = a := ⟨_, rfl⟩
  obtain ⟨b, hb⟩ : ∃ b, s2 x = b := ⟨_, rfl⟩
  rw [ha] at e1 k1 k2 k3
  rw [hb] at e2 k1 k2 k3
  obtain ⟨y, hy⟩ : ∃ y, a + b = y := ⟨_, rfl⟩
  have e3 : IntKind.u64.wrap ((a : Int) + (b : Int)) = (y : Int) := by
    rw [← hy]
    exact_mod_cast wrap_u64 (a + b) (by omega)
  rw [hy] at k1 k2 k3
  have e4 : bits .and .u64 ((y : Int) / 4) 3689348814741910323 = ((s3 y : Nat) : Int) := by
    have := u64_and_nat (y / 4) 3689348814741910323 (by omega) (by omega)
    simpa [s3] using this
  have e5 : bits .and .u64 (y : Int) 3689348814741910323 = ((s4 y : Nat) : Int) := by
    have := u64_and_nat y 3689348814741910323 (by omega) (by omega)
    simpa [s4] using this
  obtain ⟨c, hc⟩ : ∃ c, s3 y = c := ⟨_, rfl⟩
  obtain ⟨d, hd⟩ : ∃ d, s4 y = d := ⟨_, rfl⟩
  rw [hc] at e4 k2 k3
  rw [hd] at e5 k2 k3
  obtain ⟨z, hz⟩ : ∃ z, c + d = z := ⟨_, rfl⟩
  have e6 : IntKind.u64.wrap ((c : Int) + (d : Int)) = (z : Int) := by
    rw [← hz]
    exact_mod_cast wrap_u64 (c + d) (by omega)
  rw [hz] at k2 k3
  obtain ⟨u, hu⟩ : ∃ u, z / 16 + z = u := ⟨_, rfl⟩
  have e7 : IntKind.u64.wrap ((z : Int) / 16 + (z : Int)) = (u : Int) := by
    rw [← hu]
    exact_mod_cast wrap_u64 (z / 16 + z) (by omega)
  have e8 : bits .and .u64 (u : Int) 1085102592571150095 = ((size x : Nat) : Int) := by
    have := u64_and_nat u 1085102592571150095 (by omega) (by omega)
    simp only [hu] at k3
    rw [← k3]
    simpa using this
  have hs := size_le x
  obtain ⟨v, hv⟩ : ∃ v, size x = v := ⟨_, rfl⟩
  rw [hv] at e8 hs
  have e9 : IntKind.u64.wrap ((v : Int) + (v : Int) / 256) = (v : Int) := by
    rw [show (v : Int) + (v : Int) / 256 = (v : Int) by omega]
    exact wrap_u64 v (by omega)
  have e10 : IntKind.u64.wrap ((v : Int) + (v : Int) / 65536) = (v : Int) := by
    rw [show (v : Int) + (v : Int) / 65536 = (v : Int) by omega]
    exact wrap_u64 v (by omega)
  have e11 : IntKind.u64.wrap ((v : Int) + (v : Int) / 4294967296) = (v : Int) := by
    rw [show (v : Int) + (v : Int) / 4294967296 = (v : Int) by omega]
    exact wrap_u64 v (by omega)
  have e12 : bits .and .i64 (v : Int) 127 = (v : Int) := by
    have : ∀ v : Nat, v < 8 → bits .and .i64 (v : Int) 127 = (v : Int) := by decide
    exact this v (by omega)
  have HV := Lib.hid hv
  clear hv k1 k2 k3 ha hb hc hd hy hz hu
  go_enter Try.func79, Try.ntmps79
  go_wp2
  go_ret
  exact ⟨ret_i (by rw [HV.out]), rfl⟩
end Go.Proofs.Ytdbmpfongfiagaa.QuoWalkA
