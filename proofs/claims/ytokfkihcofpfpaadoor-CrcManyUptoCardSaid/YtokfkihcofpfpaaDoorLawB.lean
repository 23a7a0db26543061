/- CrcJoins walked: the program joins sums as the document does. -/
import Derived.Test.YtokfkihcofpfpaaDoorJoin
import Derived.Test.YtokfkihcofpfpaaDoorLawA
namespace Go.Proofs.YtokfkihcofpfpaaDoor.LawB
open Go.RowKit Go.Proofs.YtokfkihcofpfpaaDoor.Kit Go.Proofs.YtokfkihcofpfpaaDoor.Crc Go.Proofs.YtokfkihcofpfpaaDoor.SumA Go.Proofs.YtokfkihcofpfpaaDoor.SumB Go.Proofs.YtokfkihcofpfpaaDoor.Begun Go.Proofs.YtokfkihcofpfpaaDoor.LawA Go.Proofs.YtokfkihcofpfpaaDoor.Join

theorem ref_below (a b : Nat) (n : Int) (hn : n < 0) (w : World) :
    Calls Tryd.prog 14 #[.int .u32 (a : Int), .int .u32 (b : Int), .int .i64 n] w fun e w' => e = .returned (.int .u32 0) ∧ w = w' := by
  go_enter Tryd.func14, Tryd.ntmps14
  go_wp2
  go_ret
  exact ⟨rfl, rfl⟩

set_option maxHeartbeats 400000 in
theorem ref_join (a b n : Nat) (ha : a < 2 ^ 32) (hb : b < 2 ^ 32) (hn : n ≤ 9223372036854775807) (w : World) :
    Calls Tryd.prog 14 #[.int .u32 (a : Int), .int .u32 (b : Int), .int .i64 (n : Int)] w fun e w' => e = .returned (.int .u32 (join a b n : Nat)) ∧ w = w' := by
  go_enter Tryd.func14, Tryd.ntmps14
  go_wp2
  go_loop [0, 7] (fun x i => ∃ (j y : Nat), j ≤ n ∧ i = .int .i64 j ∧ x = .int .u32 (y : Int) ∧ Hid (y = hk (8 * j) a) ∧ y < 2 ^ 32) (fun _ i => n - (intOf i).toNat)
  case atStart => exact ⟨0, a, Nat.zero_le _, rfl, rfl, rfl, ha⟩
  case round =>
    obtain ⟨j, y, hj, rfl, rfl, hy, hyl⟩ := hrel
    by_cases hlt : j < n
    · go_wp2
      go_loop [0, 8] (fun x i => ∃ (k z : Nat), k ≤ 8 ∧ i = .int .i64 k ∧ x = .int .u32 (z : Int) ∧ Hid (z = hk k y) ∧ z < 2 ^ 32) (fun _ i => 8 - (intOf i).toNat)
      case atStart => exact ⟨0, y, by omega, rfl, rfl, rfl, hyl⟩
      case round =>
        obtain ⟨k, z, hk8, rfl, rfl, hz, hzl⟩ := hrel
        by_cases hj8 : k < 8
        · obtain ⟨v, hv⟩ : ∃ v, half z = v := ⟨_, rfl⟩
          have hvl : v < 2 ^ 32 := by rw [← hv]; exact half_lt hzl
          have HV := Lib.hid hv
          clear hv
          go_wp2_with fail
          refine (half_hid z v hzl HV _).mono ?_
          rintro e w' ⟨rfl, rfl⟩
          go_wp2
          go_round
          case rel => exact ⟨k + 1, v, by omega, by go_num, rfl, by have h1 := HV.out; have h2 := hz.out; show v = _; rw [hk_succ, ← h2, h1], hvl⟩
          case measure => simp [intOf]; omega
        · have hj' : k = 8 := by omega
          have HJ := Lib.hid hj'
          clear hj'
          go_wp2
          go_round
          case rel =>
            refine ⟨j + 1, z, by omega, by go_num, rfl, ?_, hzl⟩
            show z = _
            rw [hz.out, HJ.out, hy.out, show 8 * (j + 1) = 8 * j + 8 by omega, hk_add]
          case measure => simp [intOf]; omega
    · have hj' : j = n := by omega
      have hx := u32_xor_nat y b hyl hb
      obtain ⟨v, hv⟩ : ∃ v, v = y ^^^ b := ⟨_, rfl⟩
      rw [← hv] at hx
      have e : v = join a b n := by rw [hv, hy.out, hj']; rfl
      have HE := Lib.hid e
      clear hv e hj'
      go_wp2
      go_ret
      exact ⟨ret_u32 HE.out, rfl⟩

theorem join_hid (a b n r : Nat) (ha : a < 2 ^ 32) (hb : b < 2 ^ 32) (hn : n ≤ 9223372036854775807) (hr : Hid (join a b n = r)) (w : World) :
    Calls Tryd.prog 13 #[.int .u32 (a : Int), .int .u32 (b : Int), .int .i64 (n : Int)] w fun e w' => e = .returned (.int .u32 (r : Int)) ∧ Below w.heap.size w w' := by
  have := join_any a b n ha hb hn w
  rwa [hr.out] at this
theorem refj_hid (a b n r : Nat) (ha : a < 2 ^ 32) (hb : b < 2 ^ 32) (hn : n ≤ 9223372036854775807) (hr : Hid (join a b n = r)) (w : World) :
    Calls Tryd.prog 14 #[.int .u32 (a : Int), .int .u32 (b : Int), .int .i64 (n : Int)] w fun e w' => e = .returned (.int .u32 (r : Int)) ∧ w = w' := by
  have := ref_join a b n ha hb hn w
  rwa [hr.out] at this

set_option maxHeartbeats 400000 in
theorem joins_below (a b : Nat) (n : Int) (hn : n < 0) (w : World) (ht : Tab w) :
    Calls Tryd.prog 4 #[.int .u32 (a : Int), .int .u32 (b : Int), .int .i64 n] w fun e w' => e = .returned (.bool true) ∧ Below w.heap.size w w' := by
  have HT := Lib.hid ht
  clear ht
  go_enter Tryd.func4, Tryd.ntmps4
  go_wp2_with fail
  refine (begun_any _ HT.out).mono ?_
  rintro e w1 ⟨rfl, hbel⟩
  go_wp2_with fail
  refine (join_below a b n hn _).mono ?_
  rintro e w2 ⟨rfl, hbel2⟩
  go_wp2_with fail
  refine (ref_below a b n hn _).mono ?_
  rintro e w' ⟨rfl, rfl⟩
  go_wp2
  go_ret
  exact ⟨rfl, hbel.trans (hbel2.mono hbel.size)⟩

set_option maxHeartbeats 400000 in
theorem joins_small (a b n r : Nat) (hn : n ≤ 5000) (w : World) (ht : Tab w) (ha : a < 2 ^ 32) (hb : b < 2 ^ 32) (hr : Hid (join a b n = r)) :
    Calls Tryd.prog 4 #[.int .u32 (a : Int), .int .u32 (b : Int), .int .i64 (n : Int)] w fun e w' => e = .returned (.bool true) ∧ Below w.heap.size w w' := by
  have HT := Lib.hid ht
  clear ht
  go_enter Tryd.func4, Tryd.ntmps4
  go_wp2_with fail
  refine (begun_any _ HT.out).mono ?_
  rintro e w1 ⟨rfl, hbel⟩
  go_wp2_with fail
  refine (join_hid a b n r ha hb (by omega) hr _).mono ?_
  rintro e w2 ⟨rfl, hbel2⟩
  go_wp2_with fail
  refine (refj_hid a b n r ha hb (by omega) hr _).mono ?_
  rintro e w' ⟨rfl, rfl⟩
  go_wp2
  go_ret
  exact ⟨rfl, hbel.trans (hbel2.mono hbel.size)⟩

set_option maxHeartbeats 400000 in
theorem joins_great (a b n m r : Nat) (hn : 5000 < n) (hnm : n ≤ 9223372036854775807) (hm : ((n : Int) % 5000 = (m : Int))) (w : World) (ht : Tab w) (ha : a < 2 ^ 32) (hb : b < 2 ^ 32) (hr : Hid (join a b m = r)) :
    Calls Tryd.prog 4 #[.int .u32 (a : Int), .int .u32 (b : Int), .int .i64 (n : Int)] w fun e w' => e = .returned (.bool true) ∧ Below w.heap.size w w' := by
  have HT := Lib.hid ht
  clear ht
  go_enter Tryd.func4, Tryd.ntmps4
  go_wp2_with fail
  refine (begun_any _ HT.out).mono ?_
  rintro e w1 ⟨rfl, hbel⟩
  go_wp2_with fail
  refine (join_hid a b m r ha hb (by omega) hr _).mono ?_
  rintro e w2 ⟨rfl, hbel2⟩
  go_wp2_with fail
  refine (refj_hid a b m r ha hb (by omega) hr _).mono ?_
  rintro e w' ⟨rfl, rfl⟩
  go_wp2
  go_ret
  exact ⟨rfl, hbel.trans (hbel2.mono hbel.size)⟩

theorem joins_walk (x y n : Int) (w : World) (hx : (Lit.int .u32 x).wf = true) (hy : (Lit.int .u32 y).wf = true) (hn : (Lit.int .i64 n).wf = true) (ht : Tab w) :
    Calls Tryd.prog 4 #[.int .u32 x, .int .u32 y, .int .i64 n] w fun e w' => e = .returned (.bool true) ∧ Below w.heap.size w w' := by
  obtain ⟨a, rfl, ha⟩ := u32_nat hx
  obtain ⟨b, rfl, hb⟩ := u32_nat hy
  have hnb : -9223372036854775808 ≤ n ∧ n ≤ 9223372036854775807 := by simpa [Lit.wf, IntKind.min, IntKind.max, IntKind.signed, IntKind.bits] using hn
  by_cases h0 : n < 0
  · exact joins_below a b n h0 w ht
  · obtain ⟨m, rfl⟩ : ∃ m : Nat, n = (m : Int) := ⟨n.toNat, by omega⟩
    by_cases h5 : m ≤ 5000
    · exact joins_small a b m _ h5 w ht ha hb rfl
    · exact joins_great a b m (m % 5000) _ (by omega) (by omega) (by omega) w ht ha hb rfl
end Go.Proofs.YtokfkihcofpfpaaDoor.LawB
