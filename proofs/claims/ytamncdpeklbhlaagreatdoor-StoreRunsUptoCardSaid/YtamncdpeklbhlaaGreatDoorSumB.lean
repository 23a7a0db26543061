/- What the program's sum answers, walked: it reads its table. -/
import Derived.Test.YtamncdpeklbhlaaGreatDoorSumA
namespace Go.Proofs.YtamncdpeklbhlaaGreatDoor.SumB
open Go.RowKit Go.Proofs.YtamncdpeklbhlaaGreatDoor.Kit Go.Proofs.YtamncdpeklbhlaaGreatDoor.Crc Go.Proofs.YtamncdpeklbhlaaGreatDoor.SumA

/-- The table's cells. -/
def Tab (w : World) : Prop := ∀ i, i < 16 → w.cell? ⟨0, i, none⟩ = some (.int .u32 ((fours.getD i 0 : Nat) : Int))

/-- All bits turned about, as the walk spells it. -/
theorem not_eq {x : Nat} (h : x < 2 ^ 32) : bits .xor .u32 IntKind.u32.max (x : Int) = ((inv x : Nat) : Int) := by
  have := u32_xor_nat 4294967295 x (by omega) h
  have e : IntKind.u32.max = ((4294967295 : Nat) : Int) := by decide
  rw [e, this]
  unfold inv
  rw [ones_eq]

/-- One step by the table, as the walk spells it. -/
theorem four_step {w : World} (ht : Tab w) {q : Nat} (hq : q < 2 ^ 32) : ∃ d f v : Nat, d < 16 ∧ w.cell? ⟨0, d, none⟩ = some (.int .u32 (f : Int)) ∧ bits .and .u32 (q : Int) 15 = (d : Int) ∧
    bits .xor .u32 ((q : Int) / 16) (f : Int) = (v : Int) ∧ v < 2 ^ 32 ∧ Hid (v = hk 4 q) := by
  refine ⟨q % 16, fours.getD (q % 16) 0, q / 16 ^^^ fours.getD (q % 16) 0, by omega, ht _ (by omega), ?_, ?_, ?_, ?_⟩
  · have := u32_and_nat q 15 hq (by omega)
    rw [show (15 : Int) = ((15 : Nat) : Int) from rfl, this, show (15 : Nat) = 2 ^ 4 - 1 by decide, Nat.and_two_pow_sub_one_eq_mod]
  · have := u32_xor_nat (q / 16) (fours.getD (q % 16) 0) (by omega) (fours_lt _)
    simpa using this
  · exact Nat.xor_lt_two_pow (by omega) (fours_lt _)
  · show _ = hk 4 q
    rw [hk_four]

set_option maxRecDepth 100000 in
set_option maxHeartbeats 400000 in
theorem add_any (A : Option Addr) (n c s : Nat) (l : List UInt8) (w : World) (h : RB w A n l) (ht : Tab w) (hnc : n ≤ c) (hc : c ≤ 9223372036854775807) (hs : s < 2 ^ 32) :
    Calls Tryz.prog 125 #[.int .u32 (s : Int), .slice A n c] w fun e w' => e = .returned (.int .u32 (add s l : Nat)) ∧ w = w' := by
  have hl := reads_len h
  have HL := Lib.hid hl
  have HT := Lib.hid ht
  clear hl ht
  have hi := not_eq hs
  have hil := inv_lt hs
  have HA : Hid (add s l = inv (feed (inv s) l)) := rfl
  generalize hadd : add s l = r at HA
  clear hadd
  generalize hinv : inv s = m at hi hil HA
  clear hinv
  go_enter Tryz.func125, Tryz.ntmps125
  go_wp2
  clear hi
  go_loop [5, 12] (fun x i => ∃ (k y : Nat) (a b : List UInt8), a.length = k ∧ l = a ++ b ∧ i = .int .i64 k ∧ x = .int .u32 (y : Int) ∧ Hid (y = feed m a) ∧ y < 2 ^ 32) (fun _ i => n - (intOf i).toNat)
  case atStart => exact ⟨0, m, [], l, rfl, rfl, rfl, rfl, rfl, hil⟩
  case round =>
    obtain ⟨k, y, a, b, hk, hl, rfl, rfl, hy, hyl⟩ := hrel
    subst hl
    have hkn := HL.out
    rw [List.length_append] at hkn
    cases b with
    | nil =>
      have e : n = k := by simpa [hk] using hkn.symm
      have HE := Lib.hid e
      have HK := Lib.hid hk
      clear e hkn hk
      have hlt : ¬ ((k : Int) < n) := by have := HE.out; omega
      have e1 := not_eq hyl
      obtain ⟨z, hz⟩ : ∃ z, z = inv y := ⟨_, rfl⟩
      rw [← hz] at e1
      have HZ := Lib.hid hz
      clear hz
      go_wp2
      go_ret
      have hr : z = r := by rw [HZ.out, HA.out, hy.out, List.append_nil]
      exact ⟨ret_u32 hr, rfl⟩
    | cons c t =>
      simp only [List.length_cons] at hkn
      have hlt : k < n := by omega
      have hkl : k < (a ++ c :: t).length := by simp; omega
      obtain ⟨bk, o, rfl, hb, hcell⟩ := h.byte hlt hkl
      have hget : (a ++ c :: t)[k] = c := by simp [← hk]
      rw [hget] at hcell
      have hcl := c.toNat_lt
      obtain ⟨q, hq⟩ : ∃ q, q = y ^^^ c.toNat := ⟨_, rfl⟩
      have hql : q < 2 ^ 32 := by rw [hq]; exact Nat.xor_lt_two_pow hyl (byte_lt c)
      have hx : bits .xor .u32 (y : Int) (c.toNat : Int) = (q : Int) := by rw [hq]; exact u32_xor_nat y c.toNat hyl (by omega)
      have HQ := Lib.hid hq
      have HK := Lib.hid hk
      clear hq hk hget hkl hkn
      obtain ⟨d1, f1, v1, hd1, hc1, ha1, hx1, hv1, H1⟩ := four_step HT.out hql
      obtain ⟨d2, f2, v2, hd2, hc2, ha2, hx2, hv2, H2⟩ := four_step HT.out hv1
      go_wp2
      go_round
      case rel =>
        refine ⟨k + 1, v2, a ++ [c], t, by simp [HK.out], by simp, by go_num, rfl, ?_, hv2⟩
        show v2 = _
        rw [H2.out, H1.out, feed_append, feed_cons, feed_nil, oct_eq, hk_eight, HQ.out, hy.out]
      case measure => simp [intOf]; omega

set_option maxRecDepth 100000 in
theorem sum_any (A : Option Addr) (n c : Nat) (l : List UInt8) (w : World) (h : RB w A n l) (ht : Tab w) (hnc : n ≤ c) (hc : c ≤ 9223372036854775807) :
    Calls Tryz.prog 117 #[.slice A n c] w fun e w' => e = .returned (.int .u32 (add 0 l : Nat)) ∧ w = w' := by
  go_enter Tryz.func117, Tryz.ntmps117
  go_wp2_with fail
  refine (add_any A n c 0 l _ h ht hnc hc (by decide)).mono ?_
  rintro e w' ⟨rfl, rfl⟩
  go_wp2
  go_ret
  exact ⟨rfl, rfl⟩
end Go.Proofs.YtamncdpeklbhlaaGreatDoor.SumB
