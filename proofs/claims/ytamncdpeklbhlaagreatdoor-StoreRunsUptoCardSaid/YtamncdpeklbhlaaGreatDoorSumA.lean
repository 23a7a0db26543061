/- What one halving and the document's own sum answer, walked; what the table of the program's sum holds. -/
import Derived.Test.YtamncdpeklbhlaaGreatDoorRows
import Derived.Test.YtamncdpeklbhlaaGreatDoorKit
import Derived.Test.YtamncdpeklbhlaaGreatDoorCrc
import Derived.Laws.BitsAll
import Derived.WalkKit
import Derived.WalkSpells
import Derived.LoopTactic
import Derived.Outline
namespace Go.Proofs.YtamncdpeklbhlaaGreatDoor.SumA
open Go.RowKit Go.Proofs.YtamncdpeklbhlaaGreatDoor.Kit Go.Proofs.YtamncdpeklbhlaaGreatDoor.Crc

theorem ret_u32 {a b : Nat} (h : a = b) : Ending.returned (.int .u32 (a : Int)) = .returned (.int .u32 (b : Int)) := by rw [h]

set_option maxRecDepth 100000 in
theorem half_any (x : Nat) (hx : x < 2 ^ 32) (w : World) :
    Calls Tryz.prog 94 #[.int .u32 (x : Int)] w fun e w' => e = .returned (.int .u32 (half x : Nat)) ∧ w = w' := by
  by_cases h : x % 2 = 1
  · have e : half x = x / 2 ^^^ 2197175160 := if_pos h
    have HE := Lib.hid e
    clear e
    have hb : bits .xor .u32 ((x : Int) / 2) 2197175160 = ((x / 2 ^^^ 2197175160 : Nat) : Int) := by
      have := u32_xor_nat (x / 2) 2197175160 (by omega) (by omega)
      simpa using this
    have HB := Lib.hid hb
    clear hb
    go_enter Tryz.func94, Tryz.ntmps94
    go_wp2
    go_ret
    have key : Ending.returned (.int .u32 (bits .xor .u32 ((x : Int) / 2) 2197175160)) = .returned (.int .u32 (half x : Nat)) := by rw [HB.out, HE.out]
    exact ⟨key, rfl⟩
  · have e : half x = x / 2 := if_neg h
    have HE := Lib.hid e
    clear e
    go_enter Tryz.func94, Tryz.ntmps94
    go_wp2
    go_ret
    have key : Ending.returned (.int .u32 ((x : Int) / 2)) = .returned (.int .u32 (half x : Nat)) := by rw [HE.out]; simp
    exact ⟨key, rfl⟩

/-- A half of a number with a name. -/
theorem half_hid (x y : Nat) (hx : x < 2 ^ 32) (hy : Hid (half x = y)) (w : World) :
    Calls Tryz.prog 94 #[.int .u32 (x : Int)] w fun e w' => e = .returned (.int .u32 (y : Int)) ∧ w = w' := by
  have := half_any x hx w
  rwa [hy.out] at this

theorem hk_succ (k x : Nat) : hk (k + 1) x = half (hk k x) := by rw [hk_add]; rfl

set_option maxRecDepth 100000 in
set_option maxHeartbeats 400000 in
theorem ref_any (A : Option Addr) (n c s : Nat) (l : List UInt8) (w : World) (h : RB w A n l) (hnc : n ≤ c) (hc : c ≤ 9223372036854775807) (hs : s < 2 ^ 32) :
    Calls Tryz.prog 55 #[.int .u32 (s : Int), .slice A n c] w fun e w' => e = .returned (.int .u32 (add s l : Nat)) ∧ w = w' := by
  have hl := reads_len h
  have HL := Lib.hid hl
  clear hl
  have hi := inv_eq hs
  have hil := inv_lt hs
  have HA : Hid (add s l = inv (feed (inv s) l)) := rfl
  generalize hadd : add s l = r at HA
  clear hadd
  generalize hinv : inv s = m at hi hil HA
  clear hinv
  have h1 : (4294967295 : Int) - (s : Int) = (m : Int) := by omega
  clear hi
  go_enter Tryz.func55, Tryz.ntmps55
  go_wp2
  clear h1
  go_loop [5, 6] (fun x i => ∃ (k y : Nat) (a b : List UInt8), a.length = k ∧ l = a ++ b ∧ i = .int .i64 k ∧ x = .int .u32 (y : Int) ∧ Hid (y = feed m a) ∧ y < 2 ^ 32) (fun _ i => n - (intOf i).toNat)
  case atStart => exact ⟨0, m, [], l, rfl, rfl, rfl, rfl, rfl, hil⟩
  case round =>
    obtain ⟨k, y, a, b, hk, hl, rfl, rfl, hy, hyl⟩ := hrel
    subst hl
    have hkn := HL.out
    rw [List.length_append] at hkn
    cases b with
    | nil =>
      have e : n = k := by simpa [hk] using hkn.symm
      have HE := Lib.hid e
      have HK := Lib.hid hk
      clear e hkn hk
      have hlt : ¬ ((k : Int) < n) := by have := HE.out; omega
      have e1 := inv_eq hyl
      obtain ⟨z, hz⟩ : ∃ z, z = inv y := ⟨_, rfl⟩
      have h1 : (4294967295 : Int) - (y : Int) = (z : Int) := by omega
      have HZ := Lib.hid hz
      clear hz e1
      go_wp2
      go_ret
      have hr : z = r := by rw [HZ.out, HA.out, hy.out, List.append_nil]
      exact ⟨ret_u32 hr, rfl⟩
    | cons c t =>
      simp only [List.length_cons] at hkn
      have hlt : k < n := by omega
      have hkl : k < (a ++ c :: t).length := by simp; omega
      obtain ⟨bk, o, rfl, hb, hcell⟩ := h.byte hlt hkl
      have hget : (a ++ c :: t)[k] = c := by simp [← hk]
      rw [hget] at hcell
      have hcl := c.toNat_lt
      obtain ⟨q, hq⟩ : ∃ q, q = y ^^^ c.toNat := ⟨_, rfl⟩
      have hql : q < 2 ^ 32 := by rw [hq]; exact Nat.xor_lt_two_pow hyl (byte_lt c)
      have hx : bits .xor .u32 (y : Int) (c.toNat : Int) = (q : Int) := by rw [hq]; exact u32_xor_nat y c.toNat hyl (by omega)
      have HQ := Lib.hid hq
      have HK := Lib.hid hk
      clear hq hk hget hkl hkn
      go_wp2
      clear hx
      go_loop [5, 7] (fun x i => ∃ (j z : Nat), j ≤ 8 ∧ i = .int .i64 j ∧ x = .int .u32 (z : Int) ∧ Hid (z = hk j q) ∧ z < 2 ^ 32) (fun _ i => 8 - (intOf i).toNat)
      case atStart => exact ⟨0, q, by omega, rfl, rfl, rfl, hql⟩
      case round =>
        obtain ⟨j, z, hj, rfl, rfl, hz, hzl⟩ := hrel
        by_cases hj8 : j < 8
        · obtain ⟨v, hv⟩ : ∃ v, half z = v := ⟨_, rfl⟩
          have hvl : v < 2 ^ 32 := by rw [← hv]; exact half_lt hzl
          have HV := Lib.hid hv
          clear hv
          go_wp2_with fail
          refine (half_hid z v hzl HV _).mono ?_
          rintro e w' ⟨rfl, rfl⟩
          go_wp2
          go_round
          case rel => exact ⟨j + 1, v, by omega, by go_num, rfl, by have h1 := HV.out; have h2 := hz.out; show v = _; rw [hk_succ, ← h2, h1], hvl⟩
          case measure => simp [intOf]; omega
        · have hj' : j = 8 := by omega
          have HJ := Lib.hid hj'
          clear hj'
          go_wp2
          go_round
          case rel =>
            refine ⟨k + 1, z, a ++ [c], t, by simp [HK.out], by simp, by go_num, rfl, ?_, hzl⟩
            show z = _
            rw [hz.out, HJ.out, feed_append, feed_cons, feed_nil, oct_eq, HQ.out, hy.out]
          case measure => simp [intOf]; omega
end Go.Proofs.YtamncdpeklbhlaaGreatDoor.SumA
