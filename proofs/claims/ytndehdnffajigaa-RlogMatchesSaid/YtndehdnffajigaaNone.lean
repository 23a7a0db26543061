/- What calls on no log answer, walked. -/
import Derived.Test.YtndehdnffajigaaBegun
import Derived.Test.YtndehdnffajigaaWalkJ
set_option linter.unusedVariables false
namespace Go.Proofs.Ytndehdnffajigaa.Nones
open Go.RowKit Go.Proofs.Ytndehdnffajigaa.Kit Go.Proofs.Ytndehdnffajigaa.Blocks Go.Proofs.Ytndehdnffajigaa.Rlog Go.Proofs.Ytndehdnffajigaa.Ents Go.Proofs.Ytndehdnffajigaa.LogAt Go.Proofs.Ytndehdnffajigaa.App Go.Proofs.Ytndehdnffajigaa.WalkA Go.Proofs.Ytndehdnffajigaa.WalkB Go.Proofs.Ytndehdnffajigaa.WalkC Go.Proofs.Ytndehdnffajigaa.WalkD Go.Proofs.Ytndehdnffajigaa.WalkE Go.Proofs.Ytndehdnffajigaa.WalkF Go.Proofs.Ytndehdnffajigaa.WalkG Go.Proofs.Ytndehdnffajigaa.WalkH Go.Proofs.Ytndehdnffajigaa.WalkI

theorem eq_snap (a b c : Int) (d : ByteArray) (w : World) : (binOp .eql 24 (.agg #[.int .u64 a, .int .u64 b, .int .u64 c, .string d]) (.agg #[.int .u64 a, .int .u64 b, .int .u64 c, .string d])).run Try.prog w = .ok (.bool true) w := by
  simp [binOp, Op.equal, Op.maxDepth, go_sem]
theorem heap_alloc_new' {w : World} {o : Obj} {k : Nat} (h : k = w.heap.size) : (w.alloc o).heap[k]? = some o := by subst h; exact heap_alloc_new w o
theorem place_nil (i : Nat) (w : World) : Calls Try.prog 42 #[.pointer none, .int .u64 (i : Int)] w fun e w' => e = .returned (.tuple #[.int .i64 0, .bool false]) ∧ w = w' := by
  go_enter Try.func42, Try.ntmps42
  go_wp2
  go_ret2
  exact ⟨rfl, rfl⟩
theorem cut_nil (i : Nat) (w : World) : Calls Try.prog 22 #[.pointer none, .int .u64 (i : Int)] w fun e w' => e = .returned (.tuple #[]) ∧ w = w' := by
  go_enter Try.func22, Try.ntmps22
  go_wp2_with fail
  refine (place_nil i w).mono ?_
  rintro e w1 ⟨rfl, rfl⟩
  go_wp2
  go_end0
  exact ⟨rfl, rfl⟩
theorem last_nil (w : World) : Calls Try.prog 21 #[.pointer none] w fun e w' => e = .returned (.tuple #[.int .u64 0, .int .u64 0]) ∧ w = w' := by
  go_enter Try.func21, Try.ntmps21
  go_wp2
  go_ret2
  exact ⟨rfl, rfl⟩
theorem members_nil (i : Nat) (w : World) : Calls Try.prog 24 #[.pointer none, .int .u64 (i : Int)] w fun e w' => e = .returned (.tuple #[.int .u64 0, .int .u64 0]) ∧ Below w.heap.size w w' := by
  have b1 : Below w.heap.size w (w.alloc (.cells #[.int .u64 (i : Int)] 22)) := (Below.refl _ _).alloc (Nat.le_refl _) _
  have b2 := b1.alloc b1.size (.cells #[.int .u64 0] 22)
  have b3 := b2.alloc b2.size (.cells #[.int .u64 0] 22)
  have HB := Lib.hid b3
  have q5 : (((w.alloc (.cells #[.int .u64 (i : Int)] 22)).alloc (.cells #[.int .u64 0] 22)).alloc (.cells #[.int .u64 0] 22)).cell? ⟨w.heap.size + 1 + 1, 0, none⟩ = some (.int .u64 0) := by
    have := heap_alloc_new' (w := (w.alloc (.cells #[.int .u64 (i : Int)] 22)).alloc (.cells #[.int .u64 0] 22)) (o := .cells #[.int .u64 0] 22) (k := w.heap.size + 1 + 1) (by simp)
    rw [cell_at this]; rfl
  have q4 : (((w.alloc (.cells #[.int .u64 (i : Int)] 22)).alloc (.cells #[.int .u64 0] 22)).alloc (.cells #[.int .u64 0] 22)).cell? ⟨w.heap.size + 1, 0, none⟩ = some (.int .u64 0) := by
    have := heap_alloc_new' (w := w.alloc (.cells #[.int .u64 (i : Int)] 22)) (o := .cells #[.int .u64 0] 22) (k := w.heap.size + 1) (by simp)
    rw [World.cell?_alloc_lt _ _ _ (by show w.heap.size + 1 < _; simp), cell_at this]; rfl
  have Q4 := Lib.hid q4
  have Q5 := Lib.hid q5
  clear q4 q5 b1 b2 b3
  go_enter Try.func24, Try.ntmps24
  go_wp2
  refine bodyPost_ret (WalkJ.results_two (p := 4) (q := 5) rfl _ _ _ _ _ _ rfl rfl (WalkJ.load_u64 _ _ _ Q4.out) (WalkJ.load_u64 _ _ _ Q5.out)) rfl ?_
  exact ⟨rfl, HB.out⟩
theorem all_nil (w : World) : Calls Try.prog 23 #[.pointer none] w fun e w' => e = .returned (.tuple #[.int .u64 0, .int .u64 0]) ∧ Below w.heap.size w w' := by
  have hm := Lib.hid (members_nil 18446744073709551615 w)
  go_enter Try.func23, Try.ntmps23
  go_wp2_with fail
  refine hm.out.mono ?_
  rintro e w1 ⟨rfl, hb1⟩
  go_wp2
  go_ret2
  exact ⟨rfl, hb1⟩
theorem term_nil (i : Nat) (w : World) : Calls Try.prog 19 #[.pointer none, .int .u64 (i : Int)] w fun e w' => e = .returned (.tuple #[.int .u64 0, .int .i64 20]) ∧ w = w' := by
  go_enter Try.func19, Try.ntmps19
  go_wp2_with fail
  refine (place_nil i w).mono ?_
  rintro e w1 ⟨rfl, rfl⟩
  go_wp2
  go_ret2
  exact ⟨rfl, rfl⟩
theorem get_nil (i : Nat) (n : Int) (w : World) : Calls Try.prog 16 #[.pointer none, .int .u64 (i : Int), .int .i64 n] w fun e w' => e = .returned (.slice none 0 0) ∧ w = w' := by
  go_enter Try.func16, Try.ntmps16
  go_wp2_with fail
  refine (place_nil i w).mono ?_
  rintro e w1 ⟨rfl, rfl⟩
  go_wp2
  go_ret
  exact ⟨rfl, rfl⟩
theorem merge_nil (i t : Nat) (w : World) : Calls Try.prog 17 #[.pointer none, .int .u64 (i : Int), .int .u64 (t : Int), .slice none 0 0] w fun e w' => e = .returned (.tuple #[.slice none 0 0, .bool false]) ∧ w = w' := by
  go_enter Try.func17, Try.ntmps17
  go_wp2
  go_ret2
  exact ⟨rfl, rfl⟩
theorem compact_nil (i : Nat) (d : ByteArray) (w : World) : Calls Try.prog 25 #[.pointer none, .int .u64 (i : Int), .string d] w fun e w' => e = .returned (.int .i64 20) ∧ w = w' := by
  go_enter Try.func25, Try.ntmps25
  go_wp2_with fail
  refine (place_nil i w).mono ?_
  rintro e w1 ⟨rfl, rfl⟩
  go_wp2
  go_ret
  exact ⟨rfl, rfl⟩
theorem install_nil (a b c : Int) (d : ByteArray) (w : World) : Calls Try.prog 26 #[.pointer none, .agg #[.int .u64 a, .int .u64 b, .int .u64 c, .string d]] w fun e w' => e = .returned (.int .i64 1) ∧ Below w.heap.size w w' := by
  have hba : Below w.heap.size w (w.alloc (.cells #[.int .u64 a, .int .u64 b, .int .u64 c, .string d] 24)) := (Below.refl _ _).alloc (Nat.le_refl _) _
  go_enter Try.func26, Try.ntmps26
  go_wp2
  go_ret
  exact ⟨rfl, hba⟩
theorem first_nil (w : World) : Calls Try.prog 15 #[.pointer none] w fun e w' => e = .returned (.agg #[.int .u64 0, .int .u64 0, .int .u64 0, .string ⟨#[]⟩]) ∧ Below w.heap.size w w' := by
  have hx := Box4.new w (.int .u64 0) (.int .u64 0) (.int .u64 0) (.string ⟨#[]⟩) 24
  have hba : Below w.heap.size w (w.alloc (.cells #[.int .u64 0, .int .u64 0, .int .u64 0, .string ⟨#[]⟩] 24)) := (Below.refl _ _).alloc (Nat.le_refl _) _
  have HS := Lib.hid hx.blk
  clear hx
  go_enter Try.func15, Try.ntmps15
  go_wp2
  generalize w.alloc (.cells #[.int .u64 0, .int .u64 0, .int .u64 0, .string ⟨#[]⟩] 24) = W0 at HS hba ⊢
  have hblk := HS.out
  refine bodyPost_ret (results_cell_row (p := 2) (ty := 24) rfl _ _ w.heap.size 24 _ (0, 0) _ rfl hblk Try.underlying24 rfl (by kernel_rfl)) rfl ?_
  exact ⟨rfl, hba⟩
theorem add_nil (t : Nat) (kind : Int) (d : ByteArray) (w : World) : Calls Try.prog 20 #[.pointer none, .int .u64 (t : Int), .int .i64 kind, .string d] w fun e w' => e = .returned (.tuple #[.agg #[.int .u64 0, .int .u64 0, .int .i64 0, .string ⟨#[]⟩], .int .i64 1]) ∧ Below w.heap.size w w' := by
  have hx := Box4.new w (.int .u64 0) (.int .u64 0) (.int .i64 0) (.string ⟨#[]⟩) 47
  have hba : Below w.heap.size w (w.alloc (.cells #[.int .u64 0, .int .u64 0, .int .i64 0, .string ⟨#[]⟩] 47)) := (Below.refl _ _).alloc (Nat.le_refl _) _
  have HS := Lib.hid hx.blk
  clear hx
  go_enter Try.func20, Try.ntmps20
  go_wp2
  generalize w.alloc (.cells #[.int .u64 0, .int .u64 0, .int .i64 0, .string ⟨#[]⟩] 47) = W0 at HS hba ⊢
  have hblk := HS.out
  refine bodyPost_ret (results_row_tmp (p := 8) (u := 9) (ty := 47) rfl _ _ w.heap.size 47 _ (0, 0) _ rfl hblk Try.underlying47 rfl (by kernel_rfl)) rfl ?_
  exact ⟨rfl, hba⟩
end Go.Proofs.Ytndehdnffajigaa.Nones
