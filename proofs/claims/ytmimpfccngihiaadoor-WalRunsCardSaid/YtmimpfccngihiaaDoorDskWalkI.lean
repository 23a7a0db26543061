/- What New leaves, and calls on a disk that is none, walked. -/
import Derived.Test.YtmimpfccngihiaaDoorDskWalkH
namespace Go.Proofs.YtmimpfccngihiaaDoor.DskWalkI
open Go.RowKit Go.Proofs.YtmimpfccngihiaaDoor.Kit Go.Proofs.YtmimpfccngihiaaDoor.Blocks Go.Proofs.YtmimpfccngihiaaDoor.Keys Go.Proofs.YtmimpfccngihiaaDoor.Model Go.Proofs.YtmimpfccngihiaaDoor.Disk Go.Proofs.YtmimpfccngihiaaDoor.DskWalkA Go.Proofs.YtmimpfccngihiaaDoor.DskWalkB Go.Proofs.YtmimpfccngihiaaDoor.DskWalkC Go.Proofs.YtmimpfccngihiaaDoor.DskWalkD Go.Proofs.YtmimpfccngihiaaDoor.DskWalkE

set_option maxRecDepth 100000 in
theorem new_no (r : Int) (w : World) (h : ¬ (0 ≤ r ∧ r ≤ 1048576)) : Calls Tryd.prog 17 #[.int .i64 r] w fun e w' => e = .returned (.tuple #[.pointer none, .int .i64 1]) ∧ w = w' := by
  by_cases h0 : r < 0
  · clear h
    go_enter Tryd.func17, Tryd.ntmps17
    go_wp2
    go_ret2
    exact ⟨rfl, rfl⟩
  · have h1 : 1048576 < r := by omega
    clear h
    go_enter Tryd.func17, Tryd.ntmps17
    go_wp2
    go_ret2
    exact ⟨rfl, rfl⟩
/-- What a call leaves that makes a disk. -/
def Fresh (w : World) (N : Nat) (m : M) (p : Nat) (w' : World) : Prop := w.heap.size ≤ p ∧ Below w.heap.size w w' ∧ ∃ A c mb x, DV w' p N m A c mb x none ∧ ∀ q, Foot p mb A q → w.heap.size ≤ q
def MadeD (w : World) (N : Nat) (m : M) (e : Ending) (w' : World) : Prop := ∃ p, e = .returned (.tuple #[.pointer (some ⟨p, 0, none⟩), .int .i64 0]) ∧ Fresh w N m p w'
theorem fresh_new (w : World) (r : Nat) : Fresh w 0 (M.new r) w.heap.size (w.alloc (.cells #[.int .i64 (r : Int), .int .i64 (-1), .bool false, .map none] 79)) := by
  refine ⟨Nat.le_refl _, (Below.refl _ _).alloc (Nat.le_refl _) _, fun _ => none, fun _ => 0, none, -1, ⟨heap_alloc_new w _, rfl, by omega, by omega, fun i => ?_, by simp, fun i _ => row_nil _ _ _, fun _ _ => ⟨rfl, rfl⟩, by simp, by simp⟩, ?_⟩
  · exact ent_no (by simp [M.has, M.new])
  · rintro q (rfl | h | ⟨i, a, h, _⟩)
    · exact Nat.le_refl _
    · cases h
    · cases h
set_option maxRecDepth 100000 in
theorem new_yes (r : Nat) (w : World) (h : r ≤ 1048576) : Calls Tryd.prog 17 #[.int .i64 (r : Int)] w (MadeD w 0 (M.new r)) := by
  have h1 : (r : Int) ≤ 1048576 := by omega
  have hf := fresh_new w r
  have HF := Lib.hid hf
  clear h hf
  go_enter Tryd.func17, Tryd.ntmps17
  go_wp2
  go_ret2
  exact ⟨_, rfl, HF.out⟩

/-! ### A disk that is none -/
set_option maxRecDepth 100000 in
theorem append_nil_no (n : Int) (s : ByteArray) (w : World) (hn : ¬ (0 ≤ n ∧ n < 16)) : Calls Tryd.prog 33 #[.pointer none, .int .i64 n, .string s] w fun e w' => e = .returned (.int .i64 1) ∧ w = w' := by
  go_enter Tryd.func33, Tryd.ntmps33
  go_wp2_with fail
  refine (file_no n _ hn).mono ?_
  rintro e w1 ⟨rfl, rfl⟩
  go_wp2
  go_ret
  exact ⟨rfl, rfl⟩
set_option maxRecDepth 100000 in
theorem append_nil_yes (n : Int) (s : ByteArray) (w : World) (hn : 0 ≤ n ∧ n < 16) : Calls Tryd.prog 33 #[.pointer none, .int .i64 n, .string s] w fun e w' => e = .returned (.int .i64 10) ∧ w = w' := by
  go_enter Tryd.func33, Tryd.ntmps33
  go_wp2_with fail
  refine (file_yes n _ hn).mono ?_
  rintro e w1 ⟨rfl, rfl⟩
  go_wp2_with fail
  refine (off_nil _).mono ?_
  rintro e w1 ⟨rfl, rfl⟩
  go_wp2
  go_ret
  exact ⟨rfl, rfl⟩
set_option maxRecDepth 100000 in
theorem replace_nil_no (n : Int) (s : ByteArray) (w : World) (hn : ¬ (0 ≤ n ∧ n < 16)) : Calls Tryd.prog 19 #[.pointer none, .int .i64 n, .string s] w fun e w' => e = .returned (.int .i64 1) ∧ w = w' := by
  go_enter Tryd.func19, Tryd.ntmps19
  go_wp2_with fail
  refine (file_no n _ hn).mono ?_
  rintro e w1 ⟨rfl, rfl⟩
  go_wp2
  go_ret
  exact ⟨rfl, rfl⟩
set_option maxRecDepth 100000 in
theorem replace_nil_yes (n : Int) (s : ByteArray) (w : World) (hn : 0 ≤ n ∧ n < 16) : Calls Tryd.prog 19 #[.pointer none, .int .i64 n, .string s] w fun e w' => e = .returned (.int .i64 10) ∧ w = w' := by
  go_enter Tryd.func19, Tryd.ntmps19
  go_wp2_with fail
  refine (file_yes n _ hn).mono ?_
  rintro e w1 ⟨rfl, rfl⟩
  go_wp2_with fail
  refine (off_nil _).mono ?_
  rintro e w1 ⟨rfl, rfl⟩
  go_wp2
  go_ret
  exact ⟨rfl, rfl⟩
set_option maxRecDepth 100000 in
theorem sync_nil (n : Int) (w : World) : Calls Tryd.prog 48 #[.pointer none, .int .i64 n] w (TellsD w 10) := by
  go_enter Tryd.func48, Tryd.ntmps48
  go_wp2_with fail
  refine (find_nil n _).mono ?_
  rintro e w1 ⟨rfl, hb1⟩
  go_wp2
  go_ret
  exact ⟨rfl, hb1.alloc hb1.size _⟩
set_option maxRecDepth 100000 in
theorem crash_nil (v : Value) (w : World) : Calls Tryd.prog 28 #[.pointer none, v] w fun e w' => e = .returned (.pointer none) ∧ w = w' := by
  go_enter Tryd.func28, Tryd.ntmps28
  go_wp2
  go_ret
  exact ⟨rfl, rfl⟩
end Go.Proofs.YtmimpfccngihiaaDoor.DskWalkI
