/- The walk of the statement that bytes have one encoding: what is decoded is encoded so. -/
import Derived.Test.YtokgompjomeolaaWalkH
namespace Go.Proofs.Ytokgompjomeolaa.LawA
open Go.RowKit Go.Proofs.Ytokgompjomeolaa.Kit Go.Proofs.Ytokgompjomeolaa.Stuff Go.Proofs.Ytokgompjomeolaa.WalkA Go.Proofs.Ytokgompjomeolaa.WalkD Go.Proofs.Ytokgompjomeolaa.WalkG Go.Proofs.Ytokgompjomeolaa.WalkH

set_option maxRecDepth 100000 in
set_option maxHeartbeats 1000000 in
theorem one_no (A : Option Addr) (n c : Nat) (l : List UInt8) (w : World) (h : RB w A n l) (hnc : n ≤ c) (hc : c ≤ 9223372036854775807) (hn : n ≤ 140737488355328) (hd : Hid (unstuff l = none)) :
    Calls Try.prog 6 #[.slice A n c] w fun e w' => e = .returned (.bool true) ∧ Below w.heap.size w w' := by
  go_enter Try.func6, Try.ntmps6
  go_wp2_with fail
  refine (begun_true _).mono ?_
  rintro e w1 ⟨rfl, hb1⟩
  have hr1 : RB w1 A n l := (h.below hb1).more hb1.size
  go_wp2_with fail
  refine (WalkD.decode_any _ _ _ _ _ hr1 hnc hc hn).mono ?_
  rw [hd.out]
  rintro e w2 ⟨rfl, hb2⟩
  go_wp2_with fail
  go_ret
  exact ⟨rfl, hb1.trans (hb2.mono hb1.size)⟩

set_option maxRecDepth 100000 in
set_option maxHeartbeats 1000000 in
theorem one_yes (A : Option Addr) (n c : Nat) (l r : List UInt8) (w : World) (h : RB w A n l) (hnc : n ≤ c) (hc : c ≤ 9223372036854775807) (hn : n ≤ 140737488355328) (hd : Hid (unstuff l = some r)) :
    Calls Try.prog 6 #[.slice A n c] w fun e w' => e = .returned (.bool true) ∧ Below w.heap.size w w' := by
  have hlen := reads_len h
  have he := one l r hd.out
  have hEr : (encode r).length ≤ 140737488355328 := by rw [he]; omega
  have hconvB : ∀ W, Reads W w.heap.size 1 A n (vals l) → (convert 22 9 (.slice A n c)).run Try.prog W = .ok (.string ⟨l.toArray⟩) W := fun W hW => conv W _ A n c l hW
  have HE := Lib.hid he
  clear hlen he
  go_enter Try.func6, Try.ntmps6
  go_wp2_with fail
  refine (begun_true _).mono ?_
  rintro e w1 ⟨rfl, hb1⟩
  have hr1 : RB w1 A n l := (h.below hb1).more hb1.size
  go_wp2_with fail
  refine (WalkD.decode_any _ _ _ _ _ hr1 hnc hc hn).mono ?_
  rw [hd.out]
  rintro e w2 ⟨v, rfl, hown, hb2⟩
  have hb : Below w.heap.size w w2 := hb1.trans (hb2.mono hb1.size)
  obtain ⟨A1, c1, rfl, hnc1, hcm1, hr2⟩ := own_form hown
  unfold maxLen at hcm1
  have hB1 : Reads w2 w.heap.size 1 A n (vals l) := h.below hb
  have hB1d : Reads w2.drew w.heap.size 1 A n (vals l) := h.below hb.drew
  go_wp2_with fail
  go_region_with ((go_at_call 10; refine (WalkC.encode_any A1 _ c1 r _ ?_ hnc1 hcm1 hEr).mono ?_; exact hr2; rw [HE.out]; rintro e w3 ⟨v2, rfl, hown2, hb3⟩; obtain ⟨A2, c2, rfl, hnc2, hcm2, hr3⟩ := own_form hown2; have hB2 : Reads w3 w.heap.size 1 A n (vals l) := (hB1d.below (hb3.mono hb.size)); have hv2 := conv w3 _ A2 _ c2 l hr3))
  all_goals go_wp2
  all_goals go_ret
  all_goals exact ⟨rfl, hb.drew.trans (hb3.mono hb.size)⟩

theorem one_walk (A : Option Addr) (n c : Nat) (l : List UInt8) (w : World) (h : RB w A n l) (hnc : n ≤ c) (hc : c ≤ 9223372036854775807) (hn : n ≤ 140737488351232) :
    Calls Try.prog 6 #[.slice A n c] w fun e w' => e = .returned (.bool true) ∧ Below w.heap.size w w' := by
  cases hd : unstuff l with
  | none => exact one_no A n c l w h hnc hc (by omega) hd
  | some r => exact one_yes A n c l r w h hnc hc (by omega) hd
end Go.Proofs.Ytokgompjomeolaa.LawA
