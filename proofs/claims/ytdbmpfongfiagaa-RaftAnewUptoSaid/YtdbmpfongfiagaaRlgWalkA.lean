/- What the program's and the document's tests of one entry answer, walked. -/
import Derived.Test.YtdbmpfongfiagaaLogAt
import Derived.Test.YtdbmpfongfiagaaPckWalkH
import Derived.Test.YtdbmpfongfiagaaQuoWalkA
import Derived.Deep.RegionHeld3
namespace Go.Proofs.Ytdbmpfongfiagaa.RlgWalkA
open Go.RowKit Go.Proofs.Ytdbmpfongfiagaa.Kit Go.Proofs.Ytdbmpfongfiagaa.Rlog Go.Proofs.Ytdbmpfongfiagaa.Ents Go.Proofs.Ytdbmpfongfiagaa.LogAt
open Go.Proofs.Ytdbmpfongfiagaa.Num (num got front rest)
open Go.Proofs.Ytdbmpfongfiagaa.State (WV RV)
open Go.Proofs.Ytdbmpfongfiagaa.PckWalkC (gotB restB frontB)
open Go.Proofs.Ytdbmpfongfiagaa.PckWalkD (badB)
open Go.Proofs.Ytdbmpfongfiagaa.PckWalkH (str str_back)
open Go.Proofs.Ytdbmpfongfiagaa.Quorum (sound)

theorem sound_hid {c : Nat} {b : Bool} (hc : c < 18446744073709551616) (h : Hid (sound c = b)) (w : World) : Calls Try.prog 15 #[.int .u64 (c : Int)] w fun e w' => e = .returned (.bool b) ∧ w = w' := by
  have := QuoWalkA.sound_any c hc w
  rwa [h.out] at this
theorem setOf_lt (d : ByteArray) : setOf d < 18446744073709551616 := Num.got_lt _

set_option maxRecDepth 100000 in
/-- The set that data says. -/
theorem set_any (d : ByteArray) (w : World) (hd : d.size ≤ 9223372036854775807) : Calls Try.prog 47 #[.string d] w fun e w' => e = .returned (.int .u64 (setOf d : Int)) ∧ Below w.heap.size w w' := by
  go_enter Try.func47, Try.ntmps47
  go_wp2_with fail
  refine (PckWalkD.from_any d _).mono ?_
  rintro e w1 ⟨rfl, hR, hb⟩
  go_wp2_with fail
  refine (PckWalkD.num_any _ _ _ _ hR hd).mono ?_
  rintro e w2 ⟨rfl, _, ho⟩
  go_wp2
  go_ret
  exact ⟨rfl, hb.trans (ho.below hb.size fun k hk => by rw [hk]; exact Nat.le_refl _)⟩
set_option maxRecDepth 100000 in
/-- The bytes of a number. -/
theorem config_any (c : Nat) (w : World) (hc : c < 18446744073709551616) : Calls Try.prog 48 #[.int .u64 (c : Int)] w fun e w' => e = .returned (.string (str (num c))) ∧ Below w.heap.size w w' := by
  have hwv : WV (w.alloc (.cells #[.slice none 0 0] 111)) w.heap.size (.slice none 0 0) [] := ⟨heap_alloc_new w _, World.ownsRow_nil _ _ _ _⟩
  have hba : Below w.heap.size w (w.alloc (.cells #[.slice none 0 0] 111)) := (Below.refl _ _).alloc (Nat.le_refl _) _
  go_enter Try.func48, Try.ntmps48
  go_wp2_with fail
  refine (PckWalkA.num_any _ _ _ c _ hwv hc (by simp)).mono ?_
  rintro e w1 ⟨rfl, v1, hwv1, hst⟩
  have hb1 := hba.trans (hst.below hba.size (Nat.le_refl _) (by rintro k hk; cases hk))
  go_wp2_with fail
  refine (PckWalkB.bytes_any _ _ _ _ hwv1).mono ?_
  rintro e w2 ⟨rfl, rfl⟩
  go_wp2
  go_ret
  exact ⟨rfl, hb1⟩

end Go.Proofs.Ytdbmpfongfiagaa.RlgWalkA
