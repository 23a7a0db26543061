/- What the document's Majority answers, walked; two lists of numbers compared. -/
import Derived.Test.YtokifeghoodkgaaGreatQuoWalkC
namespace Go.Proofs.YtokifeghoodkgaaGreat.QuoWalkD
open Go.RowKit Go.Proofs.YtokifeghoodkgaaGreat.Kit Go.Proofs.YtokifeghoodkgaaGreat.Blocks Go.Proofs.YtokifeghoodkgaaGreat.Quorum Go.Proofs.YtokifeghoodkgaaGreat.QuoWalkA Go.Proofs.YtokifeghoodkgaaGreat.QuoWalkB Go.Proofs.YtokifeghoodkgaaGreat.QuoWalkC

theorem below_drewN (B : Nat) (w : World) (n : Nat) : Below B w (w.drewN n) := ⟨rfl, rfl, rfl, Nat.le_refl _, fun _ _ => rfl⟩
/-- Counting up to k. -/
def upto (p : Nat → Bool) (k : Nat) : Nat := ((List.range k).filter p).length
theorem upto_succ (p : Nat → Bool) (k : Nat) : upto p (k + 1) = upto p k + (if p k = true then 1 else 0) := by
  simp only [upto, List.range_succ, List.filter_append, List.length_append, List.filter_cons, List.filter_nil]
  split <;> rfl
theorem upto_le (p : Nat → Bool) (k : Nat) : upto p k ≤ k := by
  have := List.length_filter_le p (List.range k)
  simpa [upto] using this

set_option maxRecDepth 100000 in
set_option maxHeartbeats 1000000 in
theorem rmaj_any (c s : Nat) (hc : c < 2 ^ 64) (hs : s < 2 ^ 64) (w : World) : Calls Tryz.prog 102 #[.int .u64 (c : Int), .int .u64 (s : Int)] w fun e w' => e = .returned (.bool (maj c s)) ∧ Below w.heap.size w w' := by
  have hn := rneed_any c hc
  have HM : Hid (maj c s = decide (need c ≤ upto (fun i => c.testBit i && s.testBit i) 7)) := by
    show _ = _
    unfold maj
    rw [size_and]
    rfl
  generalize need c = m at hn HM
  obtain ⟨P, hP⟩ : ∃ P : Nat → Bool, (fun i => c.testBit i && s.testBit i) = P := ⟨_, rfl⟩
  have hP' : ∀ i, P i = (c.testBit i && s.testBit i) := fun i => by rw [← hP]
  rw [hP] at HM
  clear hP
  go_enter Tryz.func102, Tryz.ntmps102
  go_wp2
  go_loop [5, 6] (fun n i => ∃ k : Nat, k ≤ 7 ∧ i = .int .i64 (k : Int) ∧ n = .int .i64 (upto P k : Nat)) (fun _ i => 7 - (intOf i).toNat)
  case atStart => exact ⟨0, by omega, rfl, rfl⟩
  case round =>
    obtain ⟨k, hk, rfl, rfl⟩ := hrel
    by_cases hlt : k < 7
    · have h1 := fun w => rhas_any c hc (k : Int) w
      have h2 := fun w => rhas_any s hs (k : Int) w
      simp only [has_nat _ hlt] at h1 h2
      have hu := upto_succ P k
      have hl := upto_le P k
      have hp := hP' k
      obtain ⟨n, hn0⟩ : ∃ n, upto P k = n := ⟨_, rfl⟩
      rw [hn0] at hu hl
      have hw : IntKind.i64.wrap ((n : Int) + 1) = (n : Int) + 1 := IntWalk.i64_in _ (by omega)
      rw [hn0]
      clear hn0
      cases hb1 : c.testBit k with
      | true =>
        cases hb2 : s.testBit k with
        | true =>
          rw [hp, hb1, hb2] at hu
          simp only [Bool.and_self, if_true] at hu
          have HU := Lib.hid hu
          rw [hb1] at h1
          rw [hb2] at h2
          clear hu hp
          go_wp2_with fail
          refine (h1 _).mono ?_
          rintro e w1 ⟨rfl, rfl⟩
          go_wp2_with fail
          refine (h2 _).mono ?_
          rintro e w1 ⟨rfl, rfl⟩
          go_wp2
          go_round
          case rel => exact ⟨k + 1, by omega, by go_num, by rw [HU.out]; go_num⟩
          case measure => simp [intOf]; omega
        | false =>
          rw [hp, hb1, hb2] at hu
          simp only [Bool.and_false, Bool.false_eq_true, if_false, Nat.add_zero] at hu
          have HU := Lib.hid hu
          rw [hb1] at h1
          rw [hb2] at h2
          clear hu hp
          go_wp2_with fail
          refine (h1 _).mono ?_
          rintro e w1 ⟨rfl, rfl⟩
          go_wp2_with fail
          refine (h2 _).mono ?_
          rintro e w1 ⟨rfl, rfl⟩
          go_wp2
          go_round
          case rel => exact ⟨k + 1, by omega, by go_num, by rw [HU.out]⟩
          case measure => simp [intOf]; omega
      | false =>
        rw [hp, hb1] at hu
        simp only [Bool.false_and, Bool.false_eq_true, if_false, Nat.add_zero] at hu
        have HU := Lib.hid hu
        rw [hb1] at h1
        clear hu hp
        go_wp2_with (go_at_call 73; refine (h1 _).mono ?_; rintro e w1 ⟨rfl, rfl⟩)
        go_round
        case rel => exact ⟨k + 1, by omega, by go_num, by rw [HU.out]⟩
        case measure => simp [intOf]; omega
    · obtain rfl : k = 7 := by omega
      have HM' := HM
      generalize upto P 7 = n at HM HM'
      clear HM
      go_wp2_with fail
      refine (hn _).mono ?_
      rintro e w1 ⟨rfl, hb⟩
      go_wp2
      go_ret
      exact ⟨ret_b HM'.out.symm, hb⟩

end Go.Proofs.YtokifeghoodkgaaGreat.QuoWalkD
