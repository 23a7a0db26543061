/- The walk of the statement that what is encoded has no zero, is hardly longer, and is decoded as it was. -/
import Derived.Test.YtokgompjomeolaaWalkH
namespace Go.Proofs.Ytokgompjomeolaa.LawB
open Go.RowKit Go.Proofs.Ytokgompjomeolaa.Kit Go.Proofs.Ytokgompjomeolaa.Stuff Go.Proofs.Ytokgompjomeolaa.WalkA Go.Proofs.Ytokgompjomeolaa.WalkD Go.Proofs.Ytokgompjomeolaa.WalkG Go.Proofs.Ytokgompjomeolaa.WalkH

theorem byte_ne (x : UInt8) (h : x ≠ 0) : (((x.toNat : Nat) : Int) == 0) = false := by
  have : x.toNat ≠ 0 := fun e => h (by rw [← UInt8.toNat_inj]; simpa using e)
  simp
  omega

set_option maxRecDepth 100000 in
set_option maxHeartbeats 2000000 in
theorem back_walk (A : Option Addr) (n c : Nat) (l : List UInt8) (w : World) (h : RB w A n l) (hnc : n ≤ c) (hc : c ≤ 9223372036854775807) (hn : n ≤ 1048576) :
    Calls Try.prog 5 #[.slice A n c] w fun e w' => e = .returned (.bool true) ∧ Below w.heap.size w w' := by
  have hlen := reads_len h
  have hshort := encode_short l
  have hlong := encode_longer l
  have hE : (encode l).length ≤ 140737488355328 := by omega
  obtain ⟨m, hm⟩ : ∃ m, m = (encode l).length := ⟨_, rfl⟩
  have hmn : (n : Int) < (m : Int) := by omega
  have hmle : (m : Int) ≤ (n : Int) + (n : Int) / 254 + 1 := by omega
  have hmm : m ≤ 70368744177664 := by omega
  have hconvB : ∀ W, Reads W w.heap.size 1 A n (vals l) → (convert 22 9 (.slice A n c)).run Try.prog W = .ok (.string ⟨l.toArray⟩) W := fun W hW => conv W _ A n c l hW
  have HL := Lib.hid hlen
  have HM := Lib.hid hm
  clear hlen hshort hlong hm
  go_enter Try.func5, Try.ntmps5
  go_wp2_with fail
  refine (begun_true _).mono ?_
  rintro e w1 ⟨rfl, hb1⟩
  have hr1 : RB w1 A n l := (h.below hb1).more hb1.size
  go_wp2_with fail
  refine (WalkC.encode_any _ _ _ _ _ hr1 hnc hc hE).mono ?_
  rintro e w2 ⟨v, rfl, hown, hb2⟩
  rw [← HM.out] at hown
  have hb : Below w.heap.size w w2 := hb1.trans (hb2.mono hb1.size)
  obtain ⟨A1, c1, rfl, hnc1, hcm1, hr2⟩ := own_form hown
  unfold maxLen at hcm1
  go_wp2_with fail
  go_loop [14] (fun i => ∃ k : Nat, k ≤ m ∧ i = .int .i64 k) (fun i => m - (intOf i).toNat)
  case atStart => exact ⟨0, Nat.zero_le _, rfl⟩
  case round =>
    obtain ⟨k, hk, rfl⟩ := hrel
    by_cases hkm : k < m
    · have hkl : k < (encode l).length := by have := HM.out; omega
      obtain ⟨b, o, rfl, hbb, hcell⟩ := hr2.byte hkm hkl
      have hne := byte_ne _ (encode_free l _ (List.getElem_mem hkl))
      generalize (encode l)[k] = x at hcell hne
      go_wp2_with fail
      go_round
      case rel => exact ⟨k + 1, by omega, by go_num⟩
      case measure => simp [intOf]; omega
    · go_wp2_with fail
      refine (WalkD.decode_any _ _ _ _ _ hr2 hnc1 hcm1 (by omega)).mono ?_
      rw [back]
      rintro e w3 ⟨v3, rfl, hown3, hb3⟩
      rw [HL.out] at hown3
      have hb' : Below w.heap.size w w3 := hb.trans (hb3.mono hb.size)
      obtain ⟨A3, c3, rfl, _, _, hr3⟩ := own_form hown3
      have hc3 := conv w3 _ A3 n c3 l hr3
      have hB3 : Reads w3 w.heap.size 1 A n (vals l) := h.below hb'
      go_wp2_with fail
      go_ret
      exact ⟨rfl, hb'⟩
end Go.Proofs.Ytokgompjomeolaa.LawB
