/- What each statement of layer 6 asks first, walked: three members; and the laws on sets, reached numbers and changes. -/
import Derived.Test.YtopoecdcckhpiaaRefReach
import Derived.Test.YtopoecdcckhpiaaChange
namespace Go.Proofs.Ytopoecdcckhpiaa.Begun
open Go.RowKit Go.Proofs.Ytopoecdcckhpiaa.Kit Go.Proofs.Ytopoecdcckhpiaa.Blocks Go.Proofs.Ytopoecdcckhpiaa.Quorum Go.Proofs.Ytopoecdcckhpiaa.WalkA Go.Proofs.Ytopoecdcckhpiaa.WalkB Go.Proofs.Ytopoecdcckhpiaa.WalkC Go.Proofs.Ytopoecdcckhpiaa.WalkD Go.Proofs.Ytopoecdcckhpiaa.Told Go.Proofs.Ytopoecdcckhpiaa.Sorting Go.Proofs.Ytopoecdcckhpiaa.Reach Go.Proofs.Ytopoecdcckhpiaa.RefReach Go.Proofs.Ytopoecdcckhpiaa.Change

theorem u64_nat {x : Int} (h : (Lit.int .u64 x).wf = true) : ∃ s : Nat, x = (s : Int) ∧ s < 2 ^ 64 := by
  have hb : 0 ≤ x ∧ x ≤ 18446744073709551615 := by simpa [Lit.wf, IntKind.min, IntKind.max, IntKind.signed, IntKind.bits] using h
  exact ⟨x.toNat, by omega, by omega⟩
theorem change_lit (w : World) : Calls Try.prog 23 #[.int .u64 1, .bool false, .int .i64 0] w fun e w' => e = .returned (.tuple #[.int .u64 0, .int .i64 32]) ∧ w = w' := change_any 1 (by decide) false 0 w
theorem need_lit (w : World) : Calls Try.prog 17 #[.int .u64 7] w fun e w' => e = .returned (.int .i64 2) ∧ w = w' := need_any 7 (by decide) w
theorem isR_lit : IsR 7 [5, 3, 9] 5 := .inr (by decide +kernel)
theorem reached_lit (A : Option Addr) (c : Nat) (w : World) (hr : Reads w w.heap.size 1 A 3 (unums [5, 3, 9])) : Calls Try.prog 21 #[.int .u64 7, .slice A 3 c] w fun e w' => e = .returned (.int .u64 5) ∧ Below w.heap.size w w' :=
  (reached_any 7 (by decide) A 3 c [5, 3, 9] w hr).mono fun e w' ⟨r, he, hi, hb⟩ => ⟨by rw [he, hi.unique isR_lit]; rfl, hb⟩
theorem maj_yes (w : World) : Calls Try.prog 19 #[.int .u64 7, .int .u64 5] w fun e w' => e = .returned (.bool true) ∧ w = w' := by
  have := maj_any 7 5 (by decide) (by decide) w
  rwa [show maj 7 5 = true by decide +kernel] at this
theorem maj_no (w : World) : Calls Try.prog 19 #[.int .u64 7, .int .u64 4] w fun e w' => e = .returned (.bool false) ∧ w = w' := by
  have := maj_any 7 4 (by decide) (by decide) w
  rwa [show maj 7 4 = false by decide +kernel] at this

set_option maxHeartbeats 1000000 in
theorem begun_any (w : World) : Calls Try.prog 9 #[] w fun e w' => e = .returned (.bool true) ∧ Below w.heap.size w w' := by
  have hrd : Reads (w.alloc (.cells #[.int .u64 5, .int .u64 3, .int .u64 9] 22)) (w.alloc (.cells #[.int .u64 5, .int .u64 3, .int .u64 9] 22)).heap.size 1 (some ⟨w.heap.size, 0, none⟩) 3 (unums [5, 3, 9]) :=
    (reads_new w (unums [5, 3, 9]) 22).more (by simp)
  have hb0 : Below w.heap.size w (w.alloc (.cells #[.int .u64 5, .int .u64 3, .int .u64 9] 22)) := (Below.refl _ _).alloc (Nat.le_refl _) _
  have HR := Lib.hid hrd
  clear hrd
  go_enter Try.func9, Try.ntmps9
  go_wp2_with fail
  refine (change_lit _).mono ?_
  rintro e w1 ⟨rfl, rfl⟩
  go_wp2_with fail
  refine (need_lit _).mono ?_
  rintro e w1 ⟨rfl, rfl⟩
  go_wp2_with fail
  refine (reached_lit _ _ _ HR.out).mono ?_
  rintro e w2 ⟨rfl, hb2⟩
  have hb : Below w.heap.size w w2 := hb0.trans (hb2.mono hb0.size)
  clear hb2 hb0
  go_wp2_with fail
  refine (maj_yes _).mono ?_
  rintro e w3 ⟨rfl, rfl⟩
  go_wp2_with fail
  refine (maj_no _).mono ?_
  rintro e w3 ⟨rfl, rfl⟩
  go_wp2
  go_ret
  exact ⟨rfl, hb⟩
end Go.Proofs.Ytopoecdcckhpiaa.Begun
