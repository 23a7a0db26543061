/- The change that one halving makes, walked. -/
import Derived.Test.YtokfkihcofpfpaaDoorMatB
namespace Go.Proofs.YtokfkihcofpfpaaDoor.MatC
open Go.RowKit Go.Proofs.YtokfkihcofpfpaaDoor.Kit Go.Proofs.YtokfkihcofpfpaaDoor.Crc Go.Proofs.YtokfkihcofpfpaaDoor.SumA Go.Proofs.YtokfkihcofpfpaaDoor.SumB Go.Proofs.YtokfkihcofpfpaaDoor.MatA Go.Proofs.YtokfkihcofpfpaaDoor.MatB

theorem first_col : noCols.setIfInBounds 0 (.int .u32 2197175160) = firsts (cols 1) 1 := by
  have h := firsts_set (cols 1) 0 2197175160 (cols_length _) (by omega) (by rw [cols_get _ _ (by omega)]; rfl)
  rw [firsts_zero] at h
  exact h
theorem cells_one (l : List Nat) : (cells l).all (·.oneCell') = true := by simp [cells, Value.oneCell']
theorem firsts_one (l : List Nat) (j : Nat) : (firsts l j).all (·.oneCell') = true := cells_one _

theorem col_one (j : Nat) (h : 1 ≤ j) (h2 : j < 32) : (2 : Int) ^ (j - 1) % 4294967296 = ((hk 1 (2 ^ j) : Nat) : Int) := by
  obtain ⟨i, rfl⟩ : ∃ i, j = i + 1 := ⟨j - 1, by omega⟩
  have e : hk 1 (2 ^ (i + 1)) = 2 ^ i := by
    rw [Nat.pow_succ, Nat.mul_comm]
    exact half_even _
  have hl : 2 ^ i < 2 ^ 32 := Nat.pow_lt_pow_right (by decide) (by omega)
  rw [e, Nat.add_sub_cancel]
  have : ((2 : Int) ^ i) = ((2 ^ i : Nat) : Int) := by simp
  rw [this]
  generalize 2 ^ i = z at *
  omega

set_option maxHeartbeats 400000 in
theorem halving_any (w : World) :
    Calls Tryd.prog 16 #[] w fun e w' => e = .returned (.agg (cells (cols 1))) ∧ Below w.heap.size w w' := by
  have hz := (zero_of_info zero39).1
  have hrow : ((w.alloc (.cells noCols 39)).alloc (.cells noCols 39)).heap[w.heap.size + 1]? = some (.cells noCols 39) := by
    have := heap_alloc_new (w.alloc (.cells noCols 39)) (.cells noCols 39)
    simpa using this
  have hrow0 : ((w.alloc (.cells noCols 39)).alloc (.cells noCols 39)).heap[w.heap.size]? = some (.cells noCols 39) := by
    rw [Below.heap_alloc _ _ _ (by simp)]; exact heap_alloc_new _ _
  have H1 := Lib.hid hrow
  have H0 := Lib.hid hrow0
  clear hrow hrow0
  go_enter Tryd.func16, Tryd.ntmps16
  go_wp2_with (refine wpList_store_row rfl 39 _ _ rfl (w.heap.size + 1) (noCols.setIfInBounds 0 (.int .u32 2197175160)) rfl rfl 39 noCols H1.out ?s1 ?s2 ?s3 ?_)
  case s1 => rw [first_col, firsts_size _ _ (cols_length _) (by omega)]; exact info39
  case s2 => rw [first_col, firsts_size _ _ (cols_length _) (by omega), noCols_size]
  case s3 => rw [first_col]; exact firsts_one _ _
  go_loopw [2] (fun i wr => ∃ j : Nat, 1 ≤ j ∧ j ≤ 32 ∧ i = .int .i64 j ∧ Hid (wr.heap[w.heap.size]? = some (.cells noCols 39)) ∧
      Hid (wr.heap[w.heap.size + 1]? = some (.cells (firsts (cols 1) j) 39)) ∧ Below w.heap.size w wr)
    (fun i _ => 32 - (intOf i).toNat)
  case atStart =>
    refine ⟨1, by omega, by omega, rfl, ?_, ?_, below_setRow (((Below.refl _ _).alloc (Nat.le_refl _) _).alloc (by simp) _) (by omega) _⟩
    · exact (setRow_other _ _ _ _ (by omega)).trans H0.out
    · show _ = _
      rw [← first_col]
      exact setRow_heap _ _ _ _ _ _ H1.out
  case round =>
    obtain ⟨j, hj1, hj, rfl, B0, B1, hbel⟩ := hrel
    by_cases hlt : j < 32
    · have hcell : wr.cell? ⟨w.heap.size + 1, j, none⟩ = some (.int .u32 (0 : Int)) := by
        rw [cell_of_row _ _ j _ _ _ B1.out]; exact firsts_get _ _ (cols_length _) hlt
      have hfr : wr.frozen? ⟨w.heap.size + 1, j, none⟩ = false := frozen_of_row _ _ j _ _ B1.out
      have HJ := Lib.hid (col_one j hj1 hlt)
      go_wp2
      go_roundw
      case rel =>
        refine ⟨j + 1, by omega, by omega, by go_num, ?_, ?_, hbel.setCell (by show w.heap.size ≤ w.heap.size + 1; omega) _⟩
        · exact (heap_setCell_other _ _ _ _ (by show w.heap.size ≠ w.heap.size + 1; omega)).trans B0.out
        · show _ = _
          rw [heap_setCell_same _ _ _ _ _ _ B1.out, HJ.out, firsts_set _ _ _ (cols_length _) hlt (cols_get _ _ hlt)]
      case measure => simp [intOf]; omega
    · have hj' : j = 32 := by omega
      subst hj'
      rw [firsts_all _ (cols_length _)] at B1
      obtain ⟨C, hC⟩ : ∃ C, C = cells (cols 1) := ⟨_, rfl⟩
      have hsz : C.size = 32 := by rw [hC, cells_size, cols_length]
      have hone : C.all (·.oneCell') = true := by rw [hC]; simp [cells, Value.oneCell']
      rw [← hC] at B1
      have HZ := Lib.hid hsz
      have HC := Lib.hid hC
      have HO := Lib.hid hone
      clear hsz hC hone
      go_wp2_with (first
        | (refine wpList_load_row rfl 39 _ rfl (w.heap.size + 1) rfl 39 C (0, 0) _ B1.out Tryd.underlying39 rfl (by rw [HZ.out]; exact info39) ?_)
        | (refine wpList_store_row rfl 39 _ _ rfl w.heap.size C rfl rfl 39 noCols B0.out (by rw [HZ.out]; exact info39) (by rw [HZ.out, noCols_size]) HO.out ?_))
      have hbel1 : Below w.heap.size w (wr.setRow w.heap.size C) := below_setRow hbel (by omega) _
      have hrow : (wr.setRow w.heap.size C).heap[w.heap.size]? = some (.cells C 39) := setRow_heap _ _ _ _ _ _ B0.out
      refine bodyPost_ret (v := .agg C) ?_ rfl ⟨by rw [HC.out], hbel1⟩
      exact results_cell_row (P := Tryd.prog) (fn := Tryd.f16) rfl _ _ w.heap.size 39 C (0, 0) _ rfl hrow Tryd.underlying39 rfl (by rw [HZ.out]; exact info39)
end Go.Proofs.YtokfkihcofpfpaaDoor.MatC
