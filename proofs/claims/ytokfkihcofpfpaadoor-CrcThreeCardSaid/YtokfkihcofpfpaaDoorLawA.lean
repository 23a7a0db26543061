/- CrcSums walked: the program's sums are the document's. -/
import Derived.Test.YtokfkihcofpfpaaDoorBegun
namespace Go.Proofs.YtokfkihcofpfpaaDoor.LawA
open Go.RowKit Go.Proofs.YtokfkihcofpfpaaDoor.Kit Go.Proofs.YtokfkihcofpfpaaDoor.Crc Go.Proofs.YtokfkihcofpfpaaDoor.SumA Go.Proofs.YtokfkihcofpfpaaDoor.SumB Go.Proofs.YtokfkihcofpfpaaDoor.Begun

theorem u32_nat {x : Int} (h : (Lit.int .u32 x).wf = true) : ∃ s : Nat, x = (s : Int) ∧ s < 2 ^ 32 := by
  have hb : 0 ≤ x ∧ x ≤ 4294967295 := by simpa [Lit.wf, IntKind.min, IntKind.max, IntKind.signed, IntKind.bits] using h
  exact ⟨x.toNat, by omega, by omega⟩

theorem add_hid (A : Option Addr) (n c s r : Nat) (l : List UInt8) (w : World) (h : RB w A n l) (ht : Tab w) (hnc : n ≤ c) (hc : c ≤ 9223372036854775807) (hs : s < 2 ^ 32) (hr : Hid (add s l = r)) :
    Calls Tryd.prog 10 #[.int .u32 (s : Int), .slice A n c] w fun e w' => e = .returned (.int .u32 (r : Int)) ∧ w = w' := by
  have := add_any A n c s l w h ht hnc hc hs
  rwa [hr.out] at this
theorem ref_hid (A : Option Addr) (n c s r : Nat) (l : List UInt8) (w : World) (h : RB w A n l) (hnc : n ≤ c) (hc : c ≤ 9223372036854775807) (hs : s < 2 ^ 32) (hr : Hid (add s l = r)) :
    Calls Tryd.prog 11 #[.int .u32 (s : Int), .slice A n c] w fun e w' => e = .returned (.int .u32 (r : Int)) ∧ w = w' := by
  have := ref_any A n c s l w h hnc hc hs
  rwa [hr.out] at this

set_option maxHeartbeats 400000 in
theorem sums_nat (s r0 r1 : Nat) (A : Option Addr) (n c : Nat) (l : List UInt8) (w : World) (hs : s < 2 ^ 32) (h : RB w A n l) (hnc : n ≤ c) (hc : c ≤ 9223372036854775807) (ht : Tab w) (H0 : Hid (add s l = r0)) (H1 : Hid (add 0 l = r1)) :
    Calls Tryd.prog 3 #[.int .u32 (s : Int), .slice A n c] w fun e w' => e = .returned (.bool true) ∧ Below w.heap.size w w' := by
  have HT := Lib.hid ht
  clear ht
  go_enter Tryd.func3, Tryd.ntmps3
  go_wp2_with fail
  refine (begun_any _ HT.out).mono ?_
  rintro e w1 ⟨rfl, hbel⟩
  have HT1 := Lib.hid (Tab.below HT.out hbel)
  have h1 : RB w1 A n l := (h.below hbel).more hbel.size
  go_wp2_with fail
  refine (add_hid A n c s r0 l _ h1 HT1.out hnc hc hs H0).mono ?_
  rintro e w' ⟨rfl, rfl⟩
  go_wp2_with fail
  refine (ref_hid A n c s r0 l _ h1 hnc hc hs H0).mono ?_
  rintro e w' ⟨rfl, rfl⟩
  go_wp2_with fail
  refine (sum_hid A n c r1 l _ h1 HT1.out hnc hc H1).mono ?_
  rintro e w' ⟨rfl, rfl⟩
  go_wp2_with fail
  refine (ref_hid A n c 0 r1 l _ h1 hnc hc (by decide) H1).mono ?_
  rintro e w' ⟨rfl, rfl⟩
  go_wp2
  go_ret
  exact ⟨rfl, hbel⟩

theorem sums_walk (x : Int) (A : Option Addr) (n c : Nat) (l : List UInt8) (w : World) (hx : (Lit.int .u32 x).wf = true) (h : RB w A n l) (hnc : n ≤ c) (hc : c ≤ 9223372036854775807) (_hb : n ≤ 140737488351232) (ht : Tab w) :
    Calls Tryd.prog 3 #[.int .u32 x, .slice A n c] w fun e w' => e = .returned (.bool true) ∧ Below w.heap.size w w' := by
  obtain ⟨s, rfl, hs⟩ := u32_nat hx
  exact sums_nat s _ _ A n c l w hs h hnc hc ht rfl rfl
end Go.Proofs.YtokfkihcofpfpaaDoor.LawA
