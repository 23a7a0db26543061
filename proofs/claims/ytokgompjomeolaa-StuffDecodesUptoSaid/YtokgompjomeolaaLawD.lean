/- The walk of the statement that bytes are decoded, or refused, as the document has it. -/
import Derived.Test.YtokgompjomeolaaWalkH
namespace Go.Proofs.Ytokgompjomeolaa.LawD
open Go.RowKit Go.Proofs.Ytokgompjomeolaa.Kit Go.Proofs.Ytokgompjomeolaa.Stuff Go.Proofs.Ytokgompjomeolaa.WalkA Go.Proofs.Ytokgompjomeolaa.WalkD Go.Proofs.Ytokgompjomeolaa.WalkG Go.Proofs.Ytokgompjomeolaa.WalkH

set_option maxRecDepth 100000 in
set_option maxHeartbeats 2000000 in
theorem decodes_no (A : Option Addr) (n c : Nat) (l : List UInt8) (w : World) (h : RB w A n l) (hnc : n ≤ c) (hc : c ≤ 9223372036854775807) (hn : n ≤ 1048576) (hd : Hid (unstuff l = none)) :
    Calls Try.prog 4 #[.slice A n c] w fun e w' => e = .returned (.bool true) ∧ Below w.heap.size w w' := by
  have hno : ∀ W, (convert 22 9 (.slice none 0 0)).run Try.prog W = .ok (.string ⟨#[]⟩) W := fun W => conv W 0 none 0 0 [] Reads.none_
  go_enter Try.func4, Try.ntmps4
  go_wp2_with fail
  refine (begun_true _).mono ?_
  rintro e w1 ⟨rfl, hb1⟩
  have hr1 : RB w1 A n l := (h.below hb1).more hb1.size
  go_wp2_with fail
  refine (WalkD.decode_any _ _ _ _ _ hr1 hnc hc (by omega)).mono ?_
  rw [hd.out]
  rintro e w2 ⟨rfl, hb2⟩
  have hb : Below w.heap.size w w2 := hb1.trans (hb2.mono hb1.size)
  have hr2 : RB w2 A n l := (h.below hb).more hb.size
  go_wp2_with fail
  refine (WalkG.decode_any _ _ _ _ _ hr2 hnc hc (by omega)).mono ?_
  rw [hd.out]
  rintro e w3 ⟨rfl, hb3⟩
  have hb' : Below w.heap.size w w3 := hb.trans (hb3.mono hb.size)
  go_wp2_with fail
  go_ret
  exact ⟨rfl, hb'⟩

set_option maxRecDepth 100000 in
set_option maxHeartbeats 2000000 in
theorem decodes_yes (A : Option Addr) (n c : Nat) (l r : List UInt8) (w : World) (h : RB w A n l) (hnc : n ≤ c) (hc : c ≤ 9223372036854775807) (hn : n ≤ 1048576) (hd : Hid (unstuff l = some r)) :
    Calls Try.prog 4 #[.slice A n c] w fun e w' => e = .returned (.bool true) ∧ Below w.heap.size w w' := by
  go_enter Try.func4, Try.ntmps4
  go_wp2_with fail
  refine (begun_true _).mono ?_
  rintro e w1 ⟨rfl, hb1⟩
  have hr1 : RB w1 A n l := (h.below hb1).more hb1.size
  go_wp2_with fail
  refine (WalkD.decode_any _ _ _ _ _ hr1 hnc hc (by omega)).mono ?_
  rw [hd.out]
  rintro e w2 ⟨v2, rfl, hown2, hb2⟩
  have hb : Below w.heap.size w w2 := hb1.trans (hb2.mono hb1.size)
  have hr2 : RB w2 A n l := (h.below hb).more hb.size
  obtain ⟨A2, c2, rfl, _, _, hq2⟩ := own_form hown2
  go_wp2_with fail
  refine (WalkG.decode_any _ _ _ _ _ hr2 hnc hc (by omega)).mono ?_
  rw [hd.out]
  rintro e w3 ⟨v3, rfl, hown3, hb3⟩
  have hb' : Below w.heap.size w w3 := hb.trans (hb3.mono hb.size)
  obtain ⟨A3, c3, rfl, _, _, hq3⟩ := own_form hown3
  have hv2 := conv w3 _ A2 _ c2 r (hq2.below hb3)
  have hv3 := conv w3 _ A3 _ c3 r hq3
  go_wp2_with fail
  go_ret
  exact ⟨rfl, hb'⟩

theorem decodes_walk (A : Option Addr) (n c : Nat) (l : List UInt8) (w : World) (h : RB w A n l) (hnc : n ≤ c) (hc : c ≤ 9223372036854775807) (hn : n ≤ 1048576) :
    Calls Try.prog 4 #[.slice A n c] w fun e w' => e = .returned (.bool true) ∧ Below w.heap.size w w' := by
  cases hd : unstuff l with
  | none => exact decodes_no A n c l w h hnc hc hn hd
  | some r => exact decodes_yes A n c l r w h hnc hc hn hd
end Go.Proofs.Ytokgompjomeolaa.LawD
