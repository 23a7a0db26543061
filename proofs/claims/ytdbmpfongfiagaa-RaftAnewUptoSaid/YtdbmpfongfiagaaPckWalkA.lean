/- What a writer's calls leave, walked. -/
import Derived.Test.YtdbmpfongfiagaaRows
import Derived.Test.YtdbmpfongfiagaaState
import Derived.Test.YtdbmpfongfiagaaShelf
import Derived.Deep.RegionLaw
import Derived.BigRegion
import Derived.WalkKit
import Derived.WalkSpells
import Derived.IntWalk
import Derived.WalkLawsBesides
import Derived.LoopTactic
import Derived.Outline
namespace Go.Proofs.Ytdbmpfongfiagaa.PckWalkA
open Go.RowKit Go.Proofs.Ytdbmpfongfiagaa.Kit Go.Proofs.Ytdbmpfongfiagaa.Num Go.Proofs.Ytdbmpfongfiagaa.State

theorem sz (w : World) : (Go.sizeOf 5).run Try.prog w = .ok 1 w := by kernel_rfl
theorem info8 : (Try.prog.info? 5).map (fun i => (i.zero, i.size, i.bytes)) = some (some (.int .u8 0), 1, 1) := by kernel_rfl

set_option maxRecDepth 100000 in
/-- A writer that is none. -/
theorem num_nil (x : Nat) (w : World) : Calls Try.prog 68 #[.pointer none, .int .u64 (x : Int)] w fun e w' => e = .returned (.pointer none) ∧ w = w' := by
  go_enter Try.func68, Try.ntmps68
  go_wp2
  go_ret
  exact ⟨rfl, rfl⟩

theorem shr_at (x j : Nat) (hj : j ≤ 7) : Op.shift .shr .u64 (x : Int) .i64 (IntKind.i64.wrap (8 * (j : Int))) = pure (.int .u64 ((x / 256 ^ j : Nat) : Int)) := by
  have hs := shift_shr .u64 .i64 (x : Int) (8 * (j : Int)) (by omega) (by simp [IntKind.bits]; omega)
  rw [IntWalk.i64_in _ (by omega), hs]
  congr 2
  have e : (8 * (j : Int)).toNat = 8 * j := by omega
  have e2 : (256 : Nat) ^ j = 2 ^ (8 * j) := by rw [Nat.pow_mul]
  rw [e, e2]
  simp
theorem wrap8 (d : Nat) : IntKind.u8.wrap (d : Int) = ((d % 256 : Nat) : Int) := by
  simp [IntKind.wrap, IntKind.bits, IntKind.signed]

set_option maxRecDepth 100000 in
set_option maxHeartbeats 1000000 in
theorem num_any (p : Nat) (v : Value) (l : List UInt8) (x : Nat) (w : World) (h : WV w p v l) (hx : x < 18446744073709551616) (hl : l.length ≤ 140737488355000) :
    Calls Try.prog 68 #[.pointer (some ⟨p, 0, none⟩), .int .u64 (x : Int)] w (Wrote p v.ownBlock (l ++ num x) w) := by
  obtain ⟨i0, hi0, hz0, hz1, hz2⟩ := info_parts info8
  have h8 := wide_le8 hx
  have hbits := wide_bits hx
  obtain ⟨n, hn⟩ : ∃ n, wide x = n := ⟨_, rfl⟩
  obtain ⟨b, hb⟩ : ∃ b, Lib.bitLen x = b := ⟨_, rfl⟩
  rw [hn] at h8 hbits
  rw [hb] at hbits
  have hb64 : (b : Int) ≤ 64 := by omega
  have hcell := h.at_
  have hlt := h.lt
  have hown := h.own
  have hq : ((b : Int) + 7) / 8 = (n : Int) := by omega
  have HN := Lib.hid hn
  have HB := Lib.hid hb
  clear hn hb hbits
  go_enter Try.func68, Try.ntmps68
  go_wp2_with fail
  refine (Shelf.len_any (x : Int) _ (by omega) (by omega)).mono ?_
  rw [Int.toNat_natCast, HB.out]
  rintro e w1 ⟨rfl, hw1⟩
  subst hw1
  have hm1 : l.length + 1 ≤ maxLen := by unfold maxLen; omega
  have hs1 : (l.length + 1) * 1 ≤ 140737488355328 := by rw [Nat.mul_one]; omega
  go_wp2_with (first
    | (at_builtin
       refine wpList_append_lies _ rfl (.tmp 17) (.tmp 20) _ rfl (p + 1) 5 i0 _ 1 1 Try.underlying109 hi0 hz0 hz1 hz2 rfl (by decide) v l.length (vals l) rfl (hown.alloc _)
         ⟨w1.heap.size, 0, none⟩ 1 1 [.int .u8 (n : Int)] rfl rfl (cell_one_new _ _ _) (by simp [Value.oneCell']) (by decide) hm1 hs1 (by simp; omega) (w1.heap.size + 1) (by simp) ?_
       intro g cap w2 hown2 hg2 hat2 hlt2
       obtain ⟨hc2, hf2, hwv2, hst2⟩ := one_more (w := w1) (c := UInt8.ofNat n) h (Step.refl _ _ _) (by simp; omega) hown2 hg2 hat2 rfl
       clear hown2 hg2 hat2))
  generalize hw0 : w2.setCell ⟨p, 0, none⟩ (.slice (some ⟨g, 0, none⟩) (l.length + 1) cap) = w3 at hwv2 hst2
  clear hw0 hc2 hf2 hcell hown hm1 hs1 hq hlt2
  go_loopw [6] (fun i wr => ∃ (k : Nat) (a : List UInt8) (v' : Value) (z : Int), k ≤ n ∧ i = .int .i64 z ∧ Hid (z + 1 = k) ∧ WV wr p v' (l ++ [UInt8.ofNat n] ++ a) ∧ a ++ dig k x = dig n x ∧ Step p v.ownBlock v'.ownBlock w1 wr)
    (fun i _ => (intOf i + 1).toNat)
  case atStart => exact ⟨n, [], .slice (some ⟨g, 0, none⟩) (l.length + 1) cap, _, Nat.le_refl _, rfl, Int.sub_add_cancel _ _, by rw [List.append_nil]; exact hwv2, rfl, hst2⟩
  case round =>
    obtain ⟨k, a, v', z, hk, rfl, hz, hwv, heq, hst⟩ := hrel
    cases k with
    | zero =>
      obtain rfl : z = -1 := by have := hz.out; omega
      go_wp2
      go_ret
      refine ⟨rfl, v', ?_, hst⟩
      have : a = dig n x := by simpa [dig] using heq
      subst this
      unfold num
      rw [HN.out]
      simpa using hwv
    | succ j =>
      obtain rfl : z = (j : Int) := by have := hz.out; omega
      clear hz
      have hal : a.length = n - (j + 1) := by have := congrArg List.length heq; simp [dig_length] at this; omega
      have hll : (l ++ [UInt8.ofNat n] ++ a).length ≤ 140737488355100 := by simp; omega
      have hd := heq
      simp only [dig] at hd
      have HE := Lib.hid hd
      have HA := Lib.hid hal
      clear heq hal hd
      have hcell := hwv.at_
      have hlt := hwv.lt
      have hown := hwv.own
      obtain ⟨L, hL⟩ : ∃ L, l ++ [UInt8.ofNat n] ++ a = L := ⟨_, rfl⟩
      rw [hL] at hll hwv hown
      have HL := Lib.hid hL
      clear hL
      have hm1 : L.length + 1 ≤ maxLen := by unfold maxLen; omega
      have hs1 : (L.length + 1) * 1 ≤ 140737488355328 := by rw [Nat.mul_one]; omega
      have hj8 : (j : Int) ≤ 7 := by omega
      have hsh := shr_at x j (by omega)
      obtain ⟨d, hd⟩ : ∃ d, x / 256 ^ j = d := ⟨_, rfl⟩
      have hdl : d < 18446744073709551616 := by rw [← hd]; exact Nat.lt_of_le_of_lt (Nat.div_le_self _ _) hx
      rw [hd] at hsh
      have hcv := wrap8 d
      have HD := Lib.hid hd
      clear hd
      have hcd : wr.drew.cell? ⟨p, 0, none⟩ = some v' := hcell
      have hwvd : WV wr.drew p v' L := ⟨hwv.cell, hwv.own⟩
      have hstd : Step p v.ownBlock v'.ownBlock w1 wr.drew := ⟨hst.only.drew, hst.next⟩
      have hownd := hwvd.own
      go_wp2_with fail
      go_region_law (first
        | (refine step_append_lies _ rfl (.tmp 34) (.tmp 40) 109 rfl (p + 1) 5 i0 _ 1 1 Try.underlying109 hi0 hz0 hz1 hz2 rfl (by decide) v' L.length (vals L) rfl (hownd.alloc _)
             ⟨wr.heap.size, 0, none⟩ 1 1 [.int .u8 ((d : Int) % 256)] rfl rfl (cell_one_new _ _ _) (by simp [Value.oneCell']) (by decide) hm1 hs1 (by simp; omega) (wr.heap.size + 1) (by simp) ?_
           intro g' cap' w5 hown2 hg2 hat2 hlt2
           obtain ⟨hc2, hf2, hwv2, hst2⟩ := one_more (w := w1) (c := UInt8.ofNat (d % 256)) hwvd hstd (by simp) hown2 hg2 hat2 rfl
           clear hown2 hg2 hat2))
      all_goals go_wp2
      all_goals
        go_roundw
        case rel =>
          refine ⟨j, a ++ [UInt8.ofNat (d % 256)], .slice (some ⟨g', 0, none⟩) (L.length + 1) cap', _, by omega, rfl, Int.sub_add_cancel _ _, ?_, ?_, hst2⟩
          · have e := HL.out
            rw [← List.append_assoc, e]
            exact hwv2
          · have e := HE.out
            rw [HD.out] at e
            rw [← e]
            simp
        case measure => simp [intOf]
end Go.Proofs.Ytdbmpfongfiagaa.PckWalkA
