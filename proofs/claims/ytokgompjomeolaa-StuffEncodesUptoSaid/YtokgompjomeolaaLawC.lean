/- The walk of the statement that bytes are encoded as the document has it. -/
import Derived.Test.YtokgompjomeolaaWalkH
namespace Go.Proofs.Ytokgompjomeolaa.LawC
open Go.RowKit Go.Proofs.Ytokgompjomeolaa.Kit Go.Proofs.Ytokgompjomeolaa.Stuff Go.Proofs.Ytokgompjomeolaa.WalkA Go.Proofs.Ytokgompjomeolaa.WalkD Go.Proofs.Ytokgompjomeolaa.WalkG Go.Proofs.Ytokgompjomeolaa.WalkH

set_option maxRecDepth 100000 in
set_option maxHeartbeats 4000000 in
theorem encodes_walk (A : Option Addr) (n c : Nat) (l : List UInt8) (w : World) (h : RB w A n l) (hnc : n ≤ c) (hc : c ≤ 9223372036854775807) (hn : n ≤ 1048576) :
    Calls Try.prog 3 #[.slice A n c] w fun e w' => e = .returned (.bool true) ∧ Below w.heap.size w w' := by
  have hlen := reads_len h
  have hshort := encode_short l
  have hE : (encode l).length ≤ 140737488355328 := by omega
  clear hlen hshort
  go_enter Try.func3, Try.ntmps3
  go_wp2_with fail
  refine (begun_true _).mono ?_
  rintro e w1 ⟨rfl, hb1⟩
  have hr1 : Reads w1 w.heap.size 1 A n (vals l) := h.below hb1
  have hr1d : Reads w1.drew w.heap.size 1 A n (vals l) := h.below hb1.drew
  have hs1 := hb1.size
  go_wp2_with fail
  go_region_with (first
    | (go_at_call 10; refine (WalkC.encode_any A n c l w1.drew ?_ hnc hc hE).mono ?_; exact hr1d.more hs1; rintro e w2 ⟨v2, rfl, hown2, hb2⟩; obtain ⟨A2, c2, rfl, hnc2, hcm2, hr2⟩ := own_form hown2; have hq2 : Reads w2 w.heap.size 1 A n (vals l) := hr1d.below (hb2.mono hs1); have hv2 := conv w2 _ A2 _ c2 (encode l) hr2)
    | (go_at_call 11; refine (WalkE.encode_any A n c l w1.drew ?_ hnc hc hE).mono ?_; exact hr1d.more hs1; rintro e w3 ⟨v3, rfl, hown3, hb3⟩; obtain ⟨A3, c3, rfl, hnc3, hcm3, hr3⟩ := own_form hown3; have hq3 : Reads w3 w.heap.size 1 A n (vals l) := hr1d.below (hb3.mono hs1); have hv3 := conv w3 _ A3 _ c3 (encode l) hr3)
    | (go_at_call 10; refine (WalkC.encode_any A n c l w3 ?_ hnc hc hE).mono ?_; exact hq3.more (Nat.le_trans hs1 hb3.size); rintro e w2 ⟨v2, rfl, hown2, hb2⟩; obtain ⟨A2, c2, rfl, hnc2, hcm2, hr2⟩ := own_form hown2; have hv2 := conv w2 _ A2 _ c2 (encode l) hr2; have hv4 := conv w2 _ A3 _ c3 (encode l) (hr3.below hb2))
    | (go_at_call 11; refine (WalkE.encode_any A n c l w2 ?_ hnc hc hE).mono ?_; exact hq2.more (Nat.le_trans hs1 hb2.size); rintro e w3 ⟨v3, rfl, hown3, hb3⟩; obtain ⟨A3, c3, rfl, hnc3, hcm3, hr3⟩ := own_form hown3; have hv3 := conv w3 _ A3 _ c3 (encode l) hr3; have hv4 := conv w3 _ A2 _ c2 (encode l) (hr2.below hb3)))
  all_goals go_wp2
  all_goals go_ret
  all_goals first
    | exact ⟨rfl, hb1.drew.trans ((hb2.mono hs1).trans (hb3.mono (Nat.le_trans hs1 hb2.size)))⟩
    | exact ⟨rfl, hb1.drew.trans ((hb3.mono hs1).trans (hb2.mono (Nat.le_trans hs1 hb3.size)))⟩
end Go.Proofs.Ytokgompjomeolaa.LawC
