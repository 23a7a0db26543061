/- What is told of each member: numbers of 64 bits in memory; the two closures of Reached, walked; numbers compared. -/
import Derived.Test.YtojmbbldehbjfaaGreatRows
import Derived.Test.YtojmbbldehbjfaaGreatKit
import Derived.Test.YtojmbbldehbjfaaGreatQuorum
import Derived.Laws.BitsAll
import Derived.Deep.QuietTactic
import Derived.BigQuiet
import Derived.BigRegion
import Derived.WalkKit
import Derived.WalkSpells
import Derived.IntWalk
import Derived.LoopTactic
import Derived.Outline
import Derived.Test.YtojmbbldehbjfaaGreatOnly
namespace Go.Proofs.YtojmbbldehbjfaaGreat.QuoWalkA
open Go.RowKit Go.Proofs.YtojmbbldehbjfaaGreat.Kit Go.Proofs.YtojmbbldehbjfaaGreat.Quorum

theorem ret_b {a b : Bool} (h : a = b) : Ending.returned (.bool a) = .returned (.bool b) := by rw [h]
theorem ret_i {a b : Int} (h : a = b) : Ending.returned (.int .i64 a) = .returned (.int .i64 b) := by rw [h]
theorem ret_u {a b : Int} (h : a = b) : Ending.returned (.int .u64 a) = .returned (.int .u64 b) := by rw [h]

set_option maxRecDepth 100000 in
theorem node_any (n : Int) (w : World) : Calls Tryz.prog 95 #[.int .i64 n] w fun e w' => e = .returned (.bool (node n)) ∧ w = w' := by
  by_cases h0 : 0 ≤ n
  · by_cases h1 : n < 7
    · have hn : node n = true := by simp [node, h0, h1]
      have HN := Lib.hid hn
      clear hn
      go_enter Tryz.func95, Tryz.ntmps95
      go_wp2
      go_ret
      exact ⟨ret_b HN.out.symm, rfl⟩
    · have hn : node n = false := by simp [node, h1]
      have HN := Lib.hid hn
      clear hn
      go_enter Tryz.func95, Tryz.ntmps95
      go_wp2
      go_ret
      exact ⟨ret_b HN.out.symm, rfl⟩
  · have hn : node n = false := by simp [node, h0]
    have HN := Lib.hid hn
    clear hn
    go_enter Tryz.func95, Tryz.ntmps95
    go_wp2
    go_ret
    exact ⟨ret_b HN.out.symm, rfl⟩
theorem node_hid {n : Int} {b : Bool} (h : Hid (node n = b)) (w : World) : Calls Tryz.prog 95 #[.int .i64 n] w fun e w' => e = .returned (.bool b) ∧ w = w' := by
  have := node_any n w
  rwa [h.out] at this

theorem wrap_u64 (x : Nat) (h : x < 2 ^ 64) : IntKind.u64.wrap (x : Int) = (x : Int) := IntWalk.u64_in _ (by omega)
theorem pow_lt (i : Nat) (hi : i < 7) : 2 ^ i < 128 := Nat.pow_lt_pow_right (by decide) hi
set_option maxRecDepth 100000 in
theorem only_any (i : Nat) (hi : i < 7) (w : World) : Calls Tryz.prog 96 #[.int .i64 (i : Int)] w fun e w' => e = .returned (.int .u64 ((2 ^ i : Nat) : Int)) ∧ w = w' := by
  have hp := pow_lt i hi
  have hw : IntKind.u64.wrap (2 ^ i) = ((2 ^ i : Nat) : Int) := by
    have := wrap_u64 (2 ^ i) (by omega)
    rw [← this, Int.natCast_pow]
    rfl
  have HW := Lib.hid hw
  clear hw
  go_enter Tryz.func96, Tryz.ntmps96
  go_wp2
  go_ret
  exact ⟨ret_u HW.out, rfl⟩

theorem over (c d : Nat) (hc : c < 2 ^ 64) (hd : c &&& (18446744073709551615 - 127) = d) : d = 0 ↔ c < 128 := by
  have h1 : d / 2 ^ 7 = c / 2 ^ 7 := by
    rw [← hd, Nat.and_div_two_pow]
    have := Nat.and_two_pow_sub_one_eq_mod (c / 2 ^ 7) 57
    rw [Nat.mod_eq_of_lt (by omega)] at this
    exact this
  have h2 : d % 2 ^ 7 = 0 := by
    rw [← hd, Nat.and_mod_two_pow]
    exact Nat.and_zero _
  omega
set_option maxRecDepth 100000 in
theorem sound_any (c : Nat) (hc : c < 2 ^ 64) (w : World) : Calls Tryz.prog 25 #[.int .u64 (c : Int)] w fun e w' => e = .returned (.bool (sound c)) ∧ w = w' := by
  by_cases h0 : c = 0
  · subst h0
    go_enter Tryz.func25, Tryz.ntmps25
    go_wp2
    go_ret
    exact ⟨rfl, rfl⟩
  · obtain ⟨d, hd⟩ : ∃ d, c &&& (18446744073709551615 - 127) = d := ⟨_, rfl⟩
    have hb : bits .andNot .u64 (c : Int) 127 = (d : Int) := by
      have := u64_andNot_nat c 127 hc (by decide)
      rw [hd] at this
      exact this
    have ho := over c d hc hd
    have hn : ((c : Int) != 0) = true := by simp; omega
    clear hd
    by_cases h1 : d = 0
    · have HS : Hid (sound c = true) := Lib.hid (by simp [sound, ho.1 h1]; omega)
      have hb0 : bits .andNot .u64 (c : Int) 127 = 0 := by rw [hb, h1]; rfl
      clear ho hb
      go_enter Tryz.func25, Tryz.ntmps25
      go_wp2
      go_ret
      exact ⟨ret_b HS.out.symm, rfl⟩
    · have HS : Hid (sound c = false) := Lib.hid (by simp only [sound, decide_eq_false_iff_not]; intro e; exact h1 (ho.2 e.2))
      have hd0 : ((d : Int) == 0) = false := by simp; omega
      clear ho
      go_enter Tryz.func25, Tryz.ntmps25
      go_wp2
      go_ret
      exact ⟨ret_b HS.out.symm, rfl⟩
set_option maxRecDepth 100000 in
theorem rsound_any (c : Nat) (hc : c < 2 ^ 64) (w : World) : Calls Tryz.prog 30 #[.int .u64 (c : Int)] w fun e w' => e = .returned (.bool (sound c)) ∧ w = w' := by
  by_cases h0 : 0 < c
  · by_cases h1 : c < 128
    · have HS : Hid (sound c = true) := Lib.hid (by simp [sound, h0, h1])
      have h1' : decide ((c : Int) < 128) = true := decide_eq_true (by omega)
      go_enter Tryz.func30, Tryz.ntmps30
      go_wp2
      go_ret
      exact ⟨ret_b HS.out.symm, rfl⟩
    · have HS : Hid (sound c = false) := Lib.hid (by simp [sound, h1])
      have h1' : decide ((c : Int) < 128) = false := decide_eq_false (by omega)
      go_enter Tryz.func30, Tryz.ntmps30
      go_wp2
      go_ret
      exact ⟨ret_b HS.out.symm, rfl⟩
  · have HS : Hid (sound c = false) := Lib.hid (by simp [sound, h0])
    go_enter Tryz.func30, Tryz.ntmps30
    go_wp2
    go_ret
    exact ⟨ret_b HS.out.symm, rfl⟩
set_option maxRecDepth 100000 in
theorem nan_any (c : Nat) (w : World) : Calls Tryz.prog 142 #[.int .u64 (c : Int)] w fun e w' => e = .returned (.bool false) ∧ w = w' := by
  go_enter Tryz.func142, Tryz.ntmps142
  go_wp2
  go_ret
  exact ⟨rfl, rfl⟩

/-- The library's own count, step by step. -/
def s1 (x : Nat) : Nat := x / 2 &&& 6148914691236517205
def s2 (x : Nat) : Nat := x &&& 6148914691236517205
def s3 (y : Nat) : Nat := y / 4 &&& 3689348814741910323
def s4 (y : Nat) : Nat := y &&& 3689348814741910323
theorem steps : ∀ x, x < 128 → s1 x + s2 x < 256 ∧ s3 (s1 x + s2 x) + s4 (s1 x + s2 x) < 256 ∧
    (let z := s3 (s1 x + s2 x) + s4 (s1 x + s2 x); (z / 16 + z) &&& 1085102592571150095 = size x) := by decide +kernel
set_option maxRecDepth 100000 in
theorem ones_any (x : Nat) (hx : x < 128) (w : World) : Calls Tryz.prog 136 #[.int .u64 (x : Int)] w fun e w' => e = .returned (.int .i64 (size x : Nat)) ∧ w = w' := by
  obtain ⟨k1, k2, k3⟩ := steps x hx
  have e1 : bits .and .u64 ((x : Int) / 2) 6148914691236517205 = ((s1 x : Nat) : Int) := by
    have := u64_and_nat (x / 2) 6148914691236517205 (by omega) (by omega)
    simpa [s1] using this
  have e2 : bits .and .u64 (x : Int) 6148914691236517205 = ((s2 x : Nat) : Int) := by
    have := u64_and_nat x 6148914691236517205 (by omega) (by omega)
    simpa [s2] using this
  obtain ⟨a, ha⟩ : ∃ a, s1 x = a := ⟨_, rfl⟩
  obtain ⟨b, hb⟩ : ∃ b, s2 x = b := ⟨_, rfl⟩
  rw [ha] at e1 k1 k2 k3
  rw [hb] at e2 k1 k2 k3
  obtain ⟨y, hy⟩ : ∃ y, a + b = y := ⟨_, rfl⟩
  have e3 : IntKind.u64.wrap ((a : Int) + (b : Int)) = (y : Int) := by
    rw [← hy]
    exact_mod_cast wrap_u64 (a + b) (by omega)
  rw [hy] at k1 k2 k3
  have e4 : bits .and .u64 ((y : Int) / 4) 3689348814741910323 = ((s3 y : Nat) : Int) := by
    have := u64_and_nat (y / 4) 3689348814741910323 (by omega) (by omega)
    simpa [s3] using this
  have e5 : bits .and .u64 (y : Int) 3689348814741910323 = ((s4 y : Nat) : Int) := by
    have := u64_and_nat y 3689348814741910323 (by omega) (by omega)
    simpa [s4] using this
  obtain ⟨c, hc⟩ : ∃ c, s3 y = c := ⟨_, rfl⟩
  obtain ⟨d, hd⟩ : ∃ d, s4 y = d := ⟨_, rfl⟩
  rw [hc] at e4 k2 k3
  rw [hd] at e5 k2 k3
  obtain ⟨z, hz⟩ : ∃ z, c + d = z := ⟨_, rfl⟩
  have e6 : IntKind.u64.wrap ((c : Int) + (d : Int)) = (z : Int) := by
    rw [← hz]
    exact_mod_cast wrap_u64 (c + d) (by omega)
  rw [hz] at k2 k3
  obtain ⟨u, hu⟩ : ∃ u, z / 16 + z = u := ⟨_, rfl⟩
  have e7 : IntKind.u64.wrap ((z : Int) / 16 + (z : Int)) = (u : Int) := by
    rw [← hu]
    exact_mod_cast wrap_u64 (z / 16 + z) (by omega)
  have e8 : bits .and .u64 (u : Int) 1085102592571150095 = ((size x : Nat) : Int) := by
    have := u64_and_nat u 1085102592571150095 (by omega) (by omega)
    simp only [hu] at k3
    rw [← k3]
    simpa using this
  have hs := size_le x
  obtain ⟨v, hv⟩ : ∃ v, size x = v := ⟨_, rfl⟩
  rw [hv] at e8 hs
  have e9 : IntKind.u64.wrap ((v : Int) + (v : Int) / 256) = (v : Int) := by
    rw [show (v : Int) + (v : Int) / 256 = (v : Int) by omega]
    exact wrap_u64 v (by omega)
  have e10 : IntKind.u64.wrap ((v : Int) + (v : Int) / 65536) = (v : Int) := by
    rw [show (v : Int) + (v : Int) / 65536 = (v : Int) by omega]
    exact wrap_u64 v (by omega)
  have e11 : IntKind.u64.wrap ((v : Int) + (v : Int) / 4294967296) = (v : Int) := by
    rw [show (v : Int) + (v : Int) / 4294967296 = (v : Int) by omega]
    exact wrap_u64 v (by omega)
  have e12 : bits .and .i64 (v : Int) 127 = (v : Int) := by
    have : ∀ v : Nat, v < 8 → bits .and .i64 (v : Int) 127 = (v : Int) := by decide
    exact this v (by omega)
  have HV := Lib.hid hv
  clear hv k1 k2 k3 ha hb hc hd hy hz hu
  go_enter Tryz.func136, Tryz.ntmps136
  go_wp2
  go_ret
  exact ⟨ret_i (by rw [HV.out]), rfl⟩
end Go.Proofs.YtojmbbldehbjfaaGreat.QuoWalkA
namespace Go.Proofs.YtojmbbldehbjfaaGreat.QuoWalkB
open Go.RowKit Go.Proofs.YtojmbbldehbjfaaGreat.Kit Go.Proofs.YtojmbbldehbjfaaGreat.Quorum Go.Proofs.YtojmbbldehbjfaaGreat.QuoWalkA

theorem node_nat {n : Int} (h : node n = true) : ∃ i : Nat, n = (i : Int) ∧ i < 7 := by
  have := of_decide_eq_true h
  exact ⟨n.toNat, by omega, by omega⟩
theorem node_of {i : Nat} (h : i < 7) : node (i : Int) = true := decide_eq_true (by omega)
theorem has_nat (c : Nat) {i : Nat} (h : i < 7) : has c (i : Int) = c.testBit i := by unfold has; rw [node_of h]; simp
theorem has_no {c : Nat} {n : Int} (h : node n = false) : has c n = false := by unfold has; rw [h]; rfl
theorem and_pow (c i : Nat) : c &&& 2 ^ i = 0 ↔ c.testBit i = false := by
  constructor
  · intro e
    cases h : c.testBit i with
    | false => rfl
    | true => exact absurd e (and_pos h Nat.testBit_two_pow_self)
  · intro h
    refine Nat.eq_of_testBit_eq fun j => ?_
    rw [Nat.testBit_and, Nat.testBit_two_pow, Nat.zero_testBit]
    by_cases e : i = j
    · subst e
      simp [h]
    · simp [e]

set_option maxRecDepth 100000 in
theorem has_any (c : Nat) (hc : c < 2 ^ 64) (n : Int) (w : World) : Calls Tryz.prog 88 #[.int .u64 (c : Int), .int .i64 n] w fun e w' => e = .returned (.bool (has c n)) ∧ w = w' := by
  cases hn : node n with
  | false =>
    have HN := Lib.hid hn
    have HH := Lib.hid (has_no (c := c) hn)
    clear hn
    go_enter Tryz.func88, Tryz.ntmps88
    go_wp2_with (go_at_call 95; refine (node_hid HN _).mono ?_; rintro e w1 ⟨rfl, rfl⟩)
    go_ret
    exact ⟨ret_b HH.out.symm, rfl⟩
  | true =>
    obtain ⟨i, rfl, hi⟩ := node_nat hn
    have HN := Lib.hid hn
    have HH := Lib.hid (has_nat c hi)
    have hp := pow_lt i hi
    obtain ⟨q, hq⟩ : ∃ q, 2 ^ i = q := ⟨_, rfl⟩
    have ho := fun w => only_any i hi w
    have hz := and_pow c i
    simp only [hq] at ho hz hp
    have hb : bits .and .u64 (c : Int) (q : Int) = ((c &&& q : Nat) : Int) := u64_and_nat c q hc (by omega)
    obtain ⟨d, hd⟩ : ∃ d, c &&& q = d := ⟨_, rfl⟩
    rw [hd] at hb hz
    have hneq : ((d : Int) != 0) = c.testBit i := by
      cases ht : c.testBit i with
      | false => have := hz.2 ht; subst this; rfl
      | true =>
        have : d ≠ 0 := fun e => by rw [hz.1 e] at ht; cases ht
        simp
        omega
    have HQ := Lib.hid hneq
    have HO := Lib.hid ho
    clear hn hz hneq hq hd hp ho
    go_enter Tryz.func88, Tryz.ntmps88
    go_wp2_with (first
      | (go_at_call 95; refine (node_hid HN _).mono ?_; rintro e w1 ⟨rfl, rfl⟩)
      | (go_at_call 96; refine (HO.out _).mono ?_; rintro e w2 ⟨rfl, rfl⟩))
    go_ret
    exact ⟨ret_b (by rw [HQ.out, HH.out]), rfl⟩

set_option maxRecDepth 100000 in
theorem rhas_any (c : Nat) (hc : c < 2 ^ 64) (n : Int) (w : World) : Calls Tryz.prog 73 #[.int .u64 (c : Int), .int .i64 n] w fun e w' => e = .returned (.bool (has c n)) ∧ w = w' := by
  by_cases h0 : 0 ≤ n
  · by_cases h1 : n < 7
    · obtain ⟨i, rfl⟩ : ∃ i : Nat, n = (i : Int) := ⟨n.toNat, by omega⟩
      have hi : i < 7 := by omega
      have HB : Hid ((((c : Int) / 2 ^ i).tmod 2 == 1) = has c (i : Int)) := Lib.hid (by
        rw [has_nat c hi, Nat.testBit_eq_decide_div_mod_eq]
        have e : ((c : Int) / 2 ^ i).tmod 2 = ((c / 2 ^ i % 2 : Nat) : Int) := by
          rw [Int.tmod_eq_emod_of_nonneg (Int.ediv_nonneg (by omega) (by have := Int.pow_nonneg (n := 2) (m := i) (by decide); exact this))]
          push_cast
          rfl
        rw [e]
        generalize c / 2 ^ i % 2 = y
        rw [Bool.eq_iff_iff]
        simp
        omega)
      go_enter Tryz.func73, Tryz.ntmps73
      go_wp2
      go_ret
      exact ⟨ret_b HB.out, rfl⟩
    · have HH := Lib.hid (has_no (c := c) (n := n) (decide_eq_false (by omega)))
      go_enter Tryz.func73, Tryz.ntmps73
      go_wp2
      go_ret
      exact ⟨ret_b HH.out.symm, rfl⟩
  · have HH := Lib.hid (has_no (c := c) (n := n) (decide_eq_false (by omega)))
    go_enter Tryz.func73, Tryz.ntmps73
    go_wp2
    go_ret
    exact ⟨ret_b HH.out.symm, rfl⟩

set_option maxRecDepth 100000 in
theorem size_any (x : Nat) (hx : x < 2 ^ 64) (w : World) : Calls Tryz.prog 118 #[.int .u64 (x : Int)] w fun e w' => e = .returned (.int .i64 (size x : Nat)) ∧ w = w' := by
  have hs := size_cut x
  obtain ⟨d, hd⟩ : ∃ d, x &&& 127 = d := ⟨_, rfl⟩
  have hb : bits .and .u64 (x : Int) 127 = (d : Int) := by
    have := u64_and_nat x 127 hx (by omega)
    rw [hd] at this
    exact this
  have hl : d < 128 := by rw [← hd, cut]; omega
  rw [hd] at hs
  have ho := ones_any d hl
  rw [hs] at ho
  clear hs hd
  go_enter Tryz.func118, Tryz.ntmps118
  go_wp2_with (go_at_call 136; refine (ho _).mono ?_; rintro e w1 ⟨rfl, rfl⟩)
  go_ret
  exact ⟨rfl, rfl⟩

set_option maxRecDepth 100000 in
theorem need_any (c : Nat) (hc : c < 2 ^ 64) (w : World) : Calls Tryz.prog 119 #[.int .u64 (c : Int)] w fun e w' => e = .returned (.int .i64 (need c : Nat)) ∧ w = w' := by
  have hs := size_any c hc
  have hl := size_le c
  have HN : Hid (need c = size c / 2 + 1) := rfl
  obtain ⟨s, hs0⟩ : ∃ s, size c = s := ⟨_, rfl⟩
  rw [hs0] at hs hl HN
  have hw : IntKind.i64.wrap ((s : Int) / 2 + 1) = (s : Int) / 2 + 1 := IntWalk.i64_in _ (by omega)
  clear hs0
  go_enter Tryz.func119, Tryz.ntmps119
  go_wp2_with (go_at_call 118; refine (hs _).mono ?_; rintro e w1 ⟨rfl, rfl⟩)
  go_ret
  exact ⟨ret_i (by rw [HN.out]; simp), rfl⟩

set_option maxRecDepth 100000 in
theorem maj_any (c s : Nat) (hc : c < 2 ^ 64) (hs : s < 2 ^ 64) (w : World) : Calls Tryz.prog 92 #[.int .u64 (c : Int), .int .u64 (s : Int)] w fun e w' => e = .returned (.bool (maj c s)) ∧ w = w' := by
  have hb : bits .and .u64 (c : Int) (s : Int) = ((c &&& s : Nat) : Int) := u64_and_nat c s hc hs
  have hz := size_any (c &&& s) (Nat.and_lt_two_pow _ hs)
  have hn := need_any c hc
  have HM : Hid (maj c s = decide (need c ≤ size (c &&& s))) := rfl
  generalize size (c &&& s) = k at hz HM
  generalize c &&& s = d at hb hz
  generalize need c = m at hn HM
  go_enter Tryz.func92, Tryz.ntmps92
  go_wp2_with (first
    | (go_at_call 118; refine (hz _).mono ?_; rintro e w1 ⟨rfl, rfl⟩)
    | (go_at_call 119; refine (hn _).mono ?_; rintro e w2 ⟨rfl, rfl⟩))
  go_ret
  exact ⟨ret_b HM.out.symm, rfl⟩
end Go.Proofs.YtojmbbldehbjfaaGreat.QuoWalkB
namespace Go.Proofs.YtojmbbldehbjfaaGreat.QuoWalkC
open Go.RowKit Go.Proofs.YtojmbbldehbjfaaGreat.Kit Go.Proofs.YtojmbbldehbjfaaGreat.Blocks Go.Proofs.YtojmbbldehbjfaaGreat.Quorum Go.Proofs.YtojmbbldehbjfaaGreat.QuoWalkA Go.Proofs.YtojmbbldehbjfaaGreat.QuoWalkB

/-- Numbers as cells. -/
def nums (l : List Nat) : List Value := l.map fun (i : Nat) => Value.int .i64 (i : Int)
theorem nums_length (l : List Nat) : (nums l).length = l.length := by simp [nums]
theorem Reads.num {w : World} {B n k : Nat} {A : Option Addr} {l : List Nat} (h : Reads w B 1 A n (nums l)) (hk : k < n) : ∃ b o j, A = some ⟨b, o, none⟩ ∧ b < B ∧ l[k]? = some j ∧ w.cell? ⟨b, o + k, none⟩ = some (.int .i64 (j : Int)) := by
  obtain ⟨ad, u, rfl, hb, hx, hc⟩ := h.at_ hk
  have hs := h.spot (by omega)
  have hl : k < l.length := by have := h.len; rw [nums_length] at this; omega
  simp only [nums, List.getElem?_map, List.getElem?_eq_getElem hl, Option.map_some, Option.some.injEq] at hx
  subst hx
  refine ⟨ad.block, ad.off, l[k], by rw [← hs], hb, List.getElem?_eq_getElem hl, ?_⟩
  rw [hs, Addr.add_lit] at hc
  exact hc
theorem info3 : (Tryz.prog.info? 3).map (fun i => (i.zero, i.size, i.bytes)) = some (some (.int .i64 0), 1, 8) := by kernel_rfl
def memTo (c k : Nat) : List Nat := (List.range k).filter fun i => c.testBit i
theorem memTo_yes (c k : Nat) (h : c.testBit k = true) : memTo c (k + 1) = memTo c k ++ [k] := by simp [memTo, List.range_succ, List.filter_append, h]
theorem memTo_no (c k : Nat) (h : c.testBit k = false) : memTo c (k + 1) = memTo c k := by simp [memTo, List.range_succ, List.filter_append, h]
theorem memTo_le (c k : Nat) : (memTo c k).length ≤ k := by
  have := List.length_filter_le (fun i => c.testBit i) (List.range k)
  simpa [memTo] using this
/-- What a call that makes numbers leaves. -/
def MadeN (w : World) (l : List Nat) (e : Ending) (w' : World) : Prop :=
  ∃ v, e = .returned v ∧ w'.ownsRow w.heap.size 3 1 v l.length (nums l) ∧ Below w.heap.size w w'

set_option maxRecDepth 100000 in
set_option maxHeartbeats 1000000 in
theorem mem_any (c : Nat) (hc : c < 2 ^ 64) (w : World) : Calls Tryz.prog 91 #[.int .u64 (c : Int)] w (MadeN w (mem c)) := by
  obtain ⟨i0, hi0, hz0, hz1, hz2⟩ := info_parts info3
  go_enter Tryz.func91, Tryz.ntmps91
  go_wp2
  go_loopw [3, 5] (fun v i wr => ∃ k : Nat, k ≤ 7 ∧ i = .int .i64 (k : Int) ∧ wr.ownsRow w.heap.size 3 1 v (memTo c k).length (nums (memTo c k)) ∧ Below w.heap.size w wr) (fun _ i _ => 7 - (intOf i).toNat)
  case atStart => exact ⟨0, by omega, rfl, ⟨rfl, .inl ⟨rfl, rfl⟩⟩, Below.refl _ _⟩
  case round =>
    obtain ⟨k, hk, rfl, hown, hbel⟩ := hrel
    by_cases hlt : k < 7
    · have hll := memTo_le c k
      have hsz := hbel.size
      have hcall := fun w => has_any c hc (k : Int) w
      simp only [has_nat c hlt] at hcall
      cases ht : c.testBit k with
      | true =>
        have hs := memTo_yes c k ht
        have HS := Lib.hid hs
        rw [ht] at hcall
        have HC := Lib.hid hcall
        clear hs hcall
        obtain ⟨n, hn⟩ : ∃ n, (memTo c k).length = n := ⟨_, rfl⟩
        rw [hn] at hll hown
        have HN := Lib.hid hn
        clear hn ht
        have hm1 : n + 1 ≤ maxLen := by unfold maxLen; omega
        have hs1 : (n + 1) * 8 ≤ 140737488355328 := by omega
        have hBo : ∀ o, w.heap.size ≤ (wr.alloc o).heap.size := fun o => by simp; omega
        go_wp2_with (first
          | (go_at_call 88; refine (HC.out _).mono ?_; rintro e w1 ⟨rfl, rfl⟩)
          | (at_builtin
             refine wpList_append_any _ rfl (.tmp 11) (.tmp 13) _ rfl w.heap.size 3 i0 _ 1 8 Tryz.underlying108 hi0 hz0 hz1 hz2 rfl (by decide) _ n (nums (memTo c k)) rfl (hown.alloc _)
               (wr.heap.size + 1) _ 1 1 [.int .i64 (k : Int)] rfl (reads_one _ _ _) (by simp [Value.oneCell']) hm1 hs1 (hBo _) ?_
             intro v' w1 hown1 hg1 hat1))
        have hb1 : Below w.heap.size w w1 := (hbel.alloc hsz _).grown hg1 (by simp; omega) (own_lt hown)
        go_wp2
        go_roundw
        case rel => exact ⟨k + 1, by omega, by go_num, own_cast hown1 (by rw [HS.out, List.length_append, HN.out]; rfl) (by rw [HS.out]; simp [nums]), hb1⟩
        case measure => simp [intOf]; omega
      | false =>
        have hs := memTo_no c k ht
        have HS := Lib.hid hs
        rw [ht] at hcall
        have HC := Lib.hid hcall
        clear hs hcall ht
        go_wp2_with (go_at_call 88; refine (HC.out _).mono ?_; rintro e w1 ⟨rfl, rfl⟩)
        go_roundw
        case rel => exact ⟨k + 1, by omega, by go_num, by rw [HS.out]; exact hown, hbel⟩
        case measure => simp [intOf]; omega
    · obtain rfl : k = 7 := by omega
      go_wp2
      go_ret
      exact ⟨_, rfl, hown, hbel⟩

set_option maxRecDepth 100000 in
set_option maxHeartbeats 1000000 in
theorem rmem_any (c : Nat) (hc : c < 2 ^ 64) (w : World) : Calls Tryz.prog 107 #[.int .u64 (c : Int)] w (MadeN w (mem c)) := by
  obtain ⟨i0, hi0, hz0, hz1, hz2⟩ := info_parts info3
  go_enter Tryz.func107, Tryz.ntmps107
  go_wp2
  go_loopw [3, 4] (fun v i wr => ∃ k : Nat, k ≤ 7 ∧ i = .int .i64 (k : Int) ∧ wr.ownsRow w.heap.size 3 1 v (memTo c k).length (nums (memTo c k)) ∧ Below w.heap.size w wr) (fun _ i _ => 7 - (intOf i).toNat)
  case atStart => exact ⟨0, by omega, rfl, ⟨rfl, .inl ⟨rfl, rfl⟩⟩, Below.refl _ _⟩
  case round =>
    obtain ⟨k, hk, rfl, hown, hbel⟩ := hrel
    by_cases hlt : k < 7
    · have hll := memTo_le c k
      have hsz := hbel.size
      have hcall := fun w => rhas_any c hc (k : Int) w
      simp only [has_nat c hlt] at hcall
      cases ht : c.testBit k with
      | true =>
        have hs := memTo_yes c k ht
        have HS := Lib.hid hs
        rw [ht] at hcall
        have HC := Lib.hid hcall
        clear hs hcall
        obtain ⟨n, hn⟩ : ∃ n, (memTo c k).length = n := ⟨_, rfl⟩
        rw [hn] at hll hown
        have HN := Lib.hid hn
        clear hn ht
        have hm1 : n + 1 ≤ maxLen := by unfold maxLen; omega
        have hs1 : (n + 1) * 8 ≤ 140737488355328 := by omega
        have hBo : ∀ o, w.heap.size ≤ (wr.alloc o).heap.size := fun o => by simp; omega
        go_wp2_with (first
          | (go_at_call 73; refine (HC.out _).mono ?_; rintro e w1 ⟨rfl, rfl⟩)
          | (at_builtin
             refine wpList_append_any _ rfl (.tmp 12) (.tmp 14) _ rfl w.heap.size 3 i0 _ 1 8 Tryz.underlying108 hi0 hz0 hz1 hz2 rfl (by decide) _ n (nums (memTo c k)) rfl (hown.alloc _)
               (wr.heap.size + 1) _ 1 1 [.int .i64 (k : Int)] rfl (reads_one _ _ _) (by simp [Value.oneCell']) hm1 hs1 (hBo _) ?_
             intro v' w1 hown1 hg1 hat1))
        have hb1 : Below w.heap.size w w1 := (hbel.alloc hsz _).grown hg1 (by simp; omega) (own_lt hown)
        go_wp2
        go_roundw
        case rel => exact ⟨k + 1, by omega, by go_num, own_cast hown1 (by rw [HS.out, List.length_append, HN.out]; rfl) (by rw [HS.out]; simp [nums]), hb1⟩
        case measure => simp [intOf]; omega
      | false =>
        have hs := memTo_no c k ht
        have HS := Lib.hid hs
        rw [ht] at hcall
        have HC := Lib.hid hcall
        clear hs hcall ht
        go_wp2_with (go_at_call 73; refine (HC.out _).mono ?_; rintro e w1 ⟨rfl, rfl⟩)
        go_roundw
        case rel => exact ⟨k + 1, by omega, by go_num, by rw [HS.out]; exact hown, hbel⟩
        case measure => simp [intOf]; omega
    · obtain rfl : k = 7 := by omega
      go_wp2
      go_ret
      exact ⟨_, rfl, hown, hbel⟩

set_option maxRecDepth 100000 in
theorem rneed_any (c : Nat) (hc : c < 2 ^ 64) (w : World) : Calls Tryz.prog 124 #[.int .u64 (c : Int)] w fun e w' => e = .returned (.int .i64 (need c : Nat)) ∧ Below w.heap.size w w' := by
  have hm := rmem_any c hc
  have hl := size_le c
  have HN : Hid (need c = (mem c).length / 2 + 1) := rfl
  unfold size at hl
  obtain ⟨s, hs0⟩ : ∃ s, (mem c).length = s := ⟨_, rfl⟩
  rw [hs0] at hl HN
  have HS := Lib.hid hs0
  clear hs0
  have hw : IntKind.i64.wrap ((s : Int) / 2 + 1) = (s : Int) / 2 + 1 := IntWalk.i64_in _ (by omega)
  go_enter Tryz.func124, Tryz.ntmps124
  go_wp2_with fail
  refine (hm _).mono ?_
  rintro e w1 ⟨v, rfl, hown, hb⟩
  obtain ⟨A, c', rfl, _⟩ := own_form hown
  rw [HS.out] at hown ⊢
  go_wp2
  go_ret
  exact ⟨ret_i (by rw [HN.out]; simp), hb⟩
end Go.Proofs.YtojmbbldehbjfaaGreat.QuoWalkC
namespace Go.Proofs.YtojmbbldehbjfaaGreat.QuoWalkD
open Go.RowKit Go.Proofs.YtojmbbldehbjfaaGreat.Kit Go.Proofs.YtojmbbldehbjfaaGreat.Blocks Go.Proofs.YtojmbbldehbjfaaGreat.Quorum Go.Proofs.YtojmbbldehbjfaaGreat.QuoWalkA Go.Proofs.YtojmbbldehbjfaaGreat.QuoWalkB Go.Proofs.YtojmbbldehbjfaaGreat.QuoWalkC

theorem below_drewN (B : Nat) (w : World) (n : Nat) : Below B w (w.drewN n) := ⟨rfl, rfl, rfl, Nat.le_refl _, fun _ _ => rfl⟩
/-- Counting up to k. -/
def upto (p : Nat → Bool) (k : Nat) : Nat := ((List.range k).filter p).length
theorem upto_succ (p : Nat → Bool) (k : Nat) : upto p (k + 1) = upto p k + (if p k = true then 1 else 0) := by
  simp only [upto, List.range_succ, List.filter_append, List.length_append, List.filter_cons, List.filter_nil]
  split <;> rfl
theorem upto_le (p : Nat → Bool) (k : Nat) : upto p k ≤ k := by
  have := List.length_filter_le p (List.range k)
  simpa [upto] using this

set_option maxRecDepth 100000 in
set_option maxHeartbeats 1000000 in
theorem rmaj_any (c s : Nat) (hc : c < 2 ^ 64) (hs : s < 2 ^ 64) (w : World) : Calls Tryz.prog 102 #[.int .u64 (c : Int), .int .u64 (s : Int)] w fun e w' => e = .returned (.bool (maj c s)) ∧ Below w.heap.size w w' := by
  have hn := rneed_any c hc
  have HM : Hid (maj c s = decide (need c ≤ upto (fun i => c.testBit i && s.testBit i) 7)) := by
    show _ = _
    unfold maj
    rw [size_and]
    rfl
  generalize need c = m at hn HM
  obtain ⟨P, hP⟩ : ∃ P : Nat → Bool, (fun i => c.testBit i && s.testBit i) = P := ⟨_, rfl⟩
  have hP' : ∀ i, P i = (c.testBit i && s.testBit i) := fun i => by rw [← hP]
  rw [hP] at HM
  clear hP
  go_enter Tryz.func102, Tryz.ntmps102
  go_wp2
  go_loop [5, 6] (fun n i => ∃ k : Nat, k ≤ 7 ∧ i = .int .i64 (k : Int) ∧ n = .int .i64 (upto P k : Nat)) (fun _ i => 7 - (intOf i).toNat)
  case atStart => exact ⟨0, by omega, rfl, rfl⟩
  case round =>
    obtain ⟨k, hk, rfl, rfl⟩ := hrel
    by_cases hlt : k < 7
    · have h1 := fun w => rhas_any c hc (k : Int) w
      have h2 := fun w => rhas_any s hs (k : Int) w
      simp only [has_nat _ hlt] at h1 h2
      have hu := upto_succ P k
      have hl := upto_le P k
      have hp := hP' k
      obtain ⟨n, hn0⟩ : ∃ n, upto P k = n := ⟨_, rfl⟩
      rw [hn0] at hu hl
      have hw : IntKind.i64.wrap ((n : Int) + 1) = (n : Int) + 1 := IntWalk.i64_in _ (by omega)
      rw [hn0]
      clear hn0
      cases hb1 : c.testBit k with
      | true =>
        cases hb2 : s.testBit k with
        | true =>
          rw [hp, hb1, hb2] at hu
          simp only [Bool.and_self, if_true] at hu
          have HU := Lib.hid hu
          rw [hb1] at h1
          rw [hb2] at h2
          clear hu hp
          go_wp2_with fail
          refine (h1 _).mono ?_
          rintro e w1 ⟨rfl, rfl⟩
          go_wp2_with fail
          refine (h2 _).mono ?_
          rintro e w1 ⟨rfl, rfl⟩
          go_wp2
          go_round
          case rel => exact ⟨k + 1, by omega, by go_num, by rw [HU.out]; go_num⟩
          case measure => simp [intOf]; omega
        | false =>
          rw [hp, hb1, hb2] at hu
          simp only [Bool.and_false, Bool.false_eq_true, if_false, Nat.add_zero] at hu
          have HU := Lib.hid hu
          rw [hb1] at h1
          rw [hb2] at h2
          clear hu hp
          go_wp2_with fail
          refine (h1 _).mono ?_
          rintro e w1 ⟨rfl, rfl⟩
          go_wp2_with fail
          refine (h2 _).mono ?_
          rintro e w1 ⟨rfl, rfl⟩
          go_wp2
          go_round
          case rel => exact ⟨k + 1, by omega, by go_num, by rw [HU.out]⟩
          case measure => simp [intOf]; omega
      | false =>
        rw [hp, hb1] at hu
        simp only [Bool.false_and, Bool.false_eq_true, if_false, Nat.add_zero] at hu
        have HU := Lib.hid hu
        rw [hb1] at h1
        clear hu hp
        go_wp2_with (go_at_call 73; refine (h1 _).mono ?_; rintro e w1 ⟨rfl, rfl⟩)
        go_round
        case rel => exact ⟨k + 1, by omega, by go_num, by rw [HU.out]⟩
        case measure => simp [intOf]; omega
    · obtain rfl : k = 7 := by omega
      have HM' := HM
      generalize upto P 7 = n at HM HM'
      clear HM
      go_wp2_with fail
      refine (hn _).mono ?_
      rintro e w1 ⟨rfl, hb⟩
      go_wp2
      go_ret
      exact ⟨ret_b HM'.out.symm, hb⟩

end Go.Proofs.YtojmbbldehbjfaaGreat.QuoWalkD
namespace Go.Proofs.YtojmbbldehbjfaaGreat.Told
open Go.RowKit Go.Proofs.YtojmbbldehbjfaaGreat.Kit Go.Proofs.YtojmbbldehbjfaaGreat.Blocks Go.Proofs.YtojmbbldehbjfaaGreat.Quorum Go.Proofs.YtojmbbldehbjfaaGreat.QuoWalkA Go.Proofs.YtojmbbldehbjfaaGreat.QuoWalkB Go.Proofs.YtojmbbldehbjfaaGreat.QuoWalkC Go.Proofs.YtojmbbldehbjfaaGreat.QuoWalkD

/-- Numbers of 64 bits as cells. -/
def unums (l : List Nat) : List Value := l.map fun (i : Nat) => Value.int .u64 (i : Int)
theorem unums_length (l : List Nat) : (unums l).length = l.length := by simp [unums]
/-- What number i has; who isn't told has 0. -/
def told (l : List Nat) (i : Nat) : Nat := l.getD i 0
theorem told_over {l : List Nat} {i : Nat} (h : l.length ≤ i) : told l i = 0 := by simp [told, List.getD, List.getElem?_eq_none h]
theorem told_lt {l : List Nat} (h : ∀ x ∈ l, x < 2 ^ 64) (i : Nat) : told l i < 2 ^ 64 := by
  unfold told
  by_cases hi : i < l.length
  · simp only [List.getD, List.getElem?_eq_getElem hi, Option.getD_some]
    exact h _ (List.getElem_mem hi)
  · simp only [List.getD, List.getElem?_eq_none (Nat.le_of_not_lt hi), Option.getD_none]
    decide
theorem Reads.unum {w : World} {B n k : Nat} {A : Option Addr} {l : List Nat} (h : Reads w B 1 A n (unums l)) (hk : k < n) : ∃ b o, A = some ⟨b, o, none⟩ ∧ b < B ∧ w.cell? ⟨b, o + k, none⟩ = some (.int .u64 (told l k : Nat)) := by
  obtain ⟨ad, u, rfl, hb, hx, hc⟩ := h.at_ hk
  have hs := h.spot (by omega)
  have hl : k < l.length := by have := h.len; rw [unums_length] at this; omega
  simp only [unums, List.getElem?_map, List.getElem?_eq_getElem hl, Option.map_some, Option.some.injEq] at hx
  subst hx
  refine ⟨ad.block, ad.off, by rw [← hs], hb, ?_⟩
  rw [hs, Addr.add_lit] at hc
  rw [hc, told]
  simp [List.getD, List.getElem?_eq_getElem hl]

/-- The sign of a comparison. -/
def cmpN (x y : Nat) : Int := if x < y then -1 else if y < x then 1 else 0
theorem cmpN_lt (x y : Nat) : decide (cmpN x y < 0) = decide (x < y) := by
  unfold cmpN
  by_cases h : x < y
  · simp [h]
  · by_cases k : y < x <;> simp [h, k]
set_option maxRecDepth 100000 in
theorem compare_any (x y : Nat) (w : World) : Calls Tryz.prog 134 #[.int .u64 (x : Int), .int .u64 (y : Int)] w fun e w' => e = .returned (.int .i64 (cmpN x y)) ∧ w = w' := by
  have h1 := nan_any x
  have h2 := nan_any y
  by_cases h : x < y
  · have HC : Hid (cmpN x y = -1) := if_pos h
    go_enter Tryz.func134, Tryz.ntmps134
    go_wp2_with fail
    refine (h1 _).mono ?_
    rintro e w1 ⟨rfl, rfl⟩
    go_wp2_with fail
    refine (h2 _).mono ?_
    rintro e w1 ⟨rfl, rfl⟩
    go_wp2
    go_ret
    exact ⟨ret_i HC.out.symm, rfl⟩
  · by_cases k : y < x
    · have HC : Hid (cmpN x y = 1) := (if_neg h).trans (if_pos k)
      go_enter Tryz.func134, Tryz.ntmps134
      go_wp2_with fail
      refine (h1 _).mono ?_
      rintro e w1 ⟨rfl, rfl⟩
      go_wp2_with fail
      refine (h2 _).mono ?_
      rintro e w1 ⟨rfl, rfl⟩
      go_wp2
      go_ret
      exact ⟨ret_i HC.out.symm, rfl⟩
    · have HC : Hid (cmpN x y = 0) := (if_neg h).trans (if_neg k)
      go_enter Tryz.func134, Tryz.ntmps134
      go_wp2_with fail
      refine (h1 _).mono ?_
      rintro e w1 ⟨rfl, rfl⟩
      go_wp2_with fail
      refine (h2 _).mono ?_
      rintro e w1 ⟨rfl, rfl⟩
      go_wp2
      go_ret
      exact ⟨ret_i HC.out.symm, rfl⟩

set_option maxRecDepth 100000 in
/-- The first closure: what a number has. Its variable lies in block b. -/
theorem told_any (b : Nat) (A : Option Addr) (n c : Nat) (l : List Nat) (B : Nat) (i : Nat) (w : World) (hb : w.cell? ⟨b, 0, none⟩ = some (.slice A n c)) (hr : Reads w B 1 A n (unums l)) :
    Calls Tryz.prog 131 #[.int .i64 (i : Int), .pointer (some ⟨b, 0, none⟩)] w fun e w' => e = .returned (.int .u64 (told l i : Nat)) ∧ w = w' := by
  have hl : l.length = n := by have := hr.len; rwa [unums_length] at this
  by_cases hlt : i < n
  · obtain ⟨b1, o1, rfl, hb1, hc1⟩ := Reads.unum hr hlt
    obtain ⟨x, hx⟩ : ∃ x, told l i = x := ⟨_, rfl⟩
    rw [hx] at hc1 ⊢
    have hk0 : (0 : Int) ≤ (i : Int) := by omega
    have hk1 : (i : Int) < (n : Int) := by omega
    clear hx hl
    go_enter Tryz.func131, Tryz.ntmps131
    go_wp2
    go_ret
    exact ⟨rfl, rfl⟩
  · have HT : Hid (told l i = 0) := told_over (by omega)
    have hk1 : ¬ (i : Int) < (n : Int) := by omega
    clear hl
    go_enter Tryz.func131, Tryz.ntmps131
    go_wp2
    go_ret
    exact ⟨ret_u (by rw [HT.out]; rfl), rfl⟩
/-- The same, as a call in a region that only reads. -/
abbrev QuietT (b x i : Nat) (w : World) (k : Nat) : Prop :=
  Calls Tryz.prog 131 #[.int .i64 (i : Int), .pointer (some ⟨b, 0, none⟩)] (w.drewN k) fun e w' => e = .returned (.int .u64 (x : Int)) ∧ ∃ m, w' = w.drewN m
abbrev QuietC (x y : Nat) (r : Int) (w : World) (k : Nat) : Prop :=
  Calls Tryz.prog 134 #[.int .u64 (x : Int), .int .u64 (y : Int)] (w.drewN k) fun e w' => e = .returned (.int .i64 r) ∧ ∃ m, w' = w.drewN m
theorem quietT (b : Nat) (A : Option Addr) (n c : Nat) (l : List Nat) (B : Nat) (i x : Nat) (hx : told l i = x) (w : World) (hb : w.cell? ⟨b, 0, none⟩ = some (.slice A n c)) (hr : Reads w B 1 A n (unums l)) (k : Nat) : QuietT b x i w k := by
  have := told_any b A n c l B i (w.drewN k) hb (hr.drewN k)
  rw [hx] at this
  exact Calls.quiet_of_same (this.mono fun _ _ h => ⟨h.1, h.2.symm⟩)
theorem quietC (x y : Nat) (r : Int) (hr : cmpN x y = r) (w : World) (k : Nat) : QuietC x y r w k := by
  have := compare_any x y (w.drewN k)
  rw [hr] at this
  exact Calls.quiet_of_same (this.mono fun _ _ h => ⟨h.1, h.2.symm⟩)

set_option maxRecDepth 100000 in
/-- The second closure: the greater one first. -/
theorem after_any (b d : Nat) (A : Option Addr) (n c : Nat) (l : List Nat) (B : Nat) (i j : Nat) (w : World) (hd : w.cell? ⟨d, 0, none⟩ = some (.func (.func 131) #[] #[.pointer (some ⟨b, 0, none⟩)]))
    (hb : w.cell? ⟨b, 0, none⟩ = some (.slice A n c)) (hr : Reads w B 1 A n (unums l)) :
    Calls Tryz.prog 133 #[.int .i64 (i : Int), .int .i64 (j : Int), .pointer (some ⟨d, 0, none⟩)] w fun e w' => e = .returned (.int .i64 (cmpN (told l j) (told l i))) ∧ ∃ q, w' = w.drewN q := by
  obtain ⟨x, hx⟩ : ∃ x, told l i = x := ⟨_, rfl⟩
  obtain ⟨y, hy⟩ : ∃ y, told l j = y := ⟨_, rfl⟩
  rw [hx, hy]
  obtain ⟨r, hr0⟩ : ∃ r, cmpN y x = r := ⟨_, rfl⟩
  rw [hr0]
  have C0 : Hid (∀ k, QuietT b x i w k) := fun k => quietT b A n c l B i x hx w hb hr k
  have C1 : Hid (∀ k, QuietT b y j w k) := fun k => quietT b A n c l B j y hy w hb hr k
  have C2 : Hid (∀ k, QuietC y x r w k) := fun k => quietC y x r hr0 w k
  clear hx hy hr0 hr hb
  go_enter Tryz.func133, Tryz.ntmps133
  go_wp2
  go_quiet ((first
    | (go_at_call 131; first
      | (with_reducible exact C0.out _)
      | (with_reducible exact C1.out _))
    | (go_at_call 134; with_reducible exact C2.out _)))
  go_wp2
  go_ret
  exact ⟨rfl, _, rfl⟩
end Go.Proofs.YtojmbbldehbjfaaGreat.Told
