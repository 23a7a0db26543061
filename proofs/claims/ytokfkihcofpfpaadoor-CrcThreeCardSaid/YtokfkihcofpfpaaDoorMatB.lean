/- The change that a change makes when done twice, walked. -/
import Derived.Test.YtokfkihcofpfpaaDoorMatA
import Derived.Deep.WholeRow
namespace Go.Proofs.YtokfkihcofpfpaaDoor.MatB
open Go.RowKit Go.Proofs.YtokfkihcofpfpaaDoor.Kit Go.Proofs.YtokfkihcofpfpaaDoor.Crc Go.Proofs.YtokfkihcofpfpaaDoor.SumA Go.Proofs.YtokfkihcofpfpaaDoor.SumB Go.Proofs.YtokfkihcofpfpaaDoor.MatA

theorem below_setRow {B : Nat} {a w : World} (h : Below B a w) {g : Nat} (hg : B ≤ g) (cs : Array Value) : Below B a (w.setRow g cs) :=
  ⟨h.os, h.tape, h.output, by rw [size_setRow]; exact h.size, fun k hk => (setRow_other w g k cs (by omega)).trans (h.block k hk)⟩
/-- What a new variable of 32 columns holds. -/
def noCols : Array Value := cells (List.replicate 32 0)
theorem noCols_size : noCols.size = 32 := by simp [noCols, cells_size]
theorem zero39 : (Tryd.prog.info? 39).map (fun i => (i.zero, i.size)) = some (some (.agg noCols), 32) := by kernel_rfl

/-- The first j columns of a list, then zeros. -/
def firsts (l : List Nat) (j : Nat) : Array Value := cells (l.take j ++ List.replicate (32 - j) 0)
theorem firsts_size (l : List Nat) (j : Nat) (hl : l.length = 32) (hj : j ≤ 32) : (firsts l j).size = 32 := by simp [firsts, cells_size, hl]; omega
theorem firsts_zero (l : List Nat) : firsts l 0 = noCols := rfl
theorem firsts_all (l : List Nat) (hl : l.length = 32) : firsts l 32 = cells l := by simp [firsts, List.take_of_length_le (Nat.le_of_eq hl)]
theorem firsts_get (l : List Nat) (j : Nat) (hl : l.length = 32) (hj : j < 32) : (firsts l j)[j]? = some (.int .u32 (0 : Int)) := by
  refine cells_get _ _ 0 ?_
  rw [List.getElem?_append_right (by rw [List.length_take]; omega), List.length_take, show j - min j l.length = 0 by omega]
  rw [show 32 - j = (31 - j) + 1 by omega, List.replicate_succ]
  rfl
theorem firsts_set (l : List Nat) (j c : Nat) (hl : l.length = 32) (hj : j < 32) (hc : l[j]? = some c) : (firsts l j).setIfInBounds j (.int .u32 (c : Int)) = firsts l (j + 1) := by
  have hjl : j < l.length := by omega
  have hcl : l[j] = c := (List.getElem?_eq_some_iff.1 hc).2
  have e : (l.take j ++ List.replicate (32 - j) 0).set j c = l.take (j + 1) ++ List.replicate (32 - (j + 1)) 0 := by
    rw [List.set_append_right _ _ (by rw [List.length_take]; omega), List.length_take, show j - min j l.length = 0 by omega, show 32 - j = (32 - (j + 1)) + 1 by omega, List.replicate_succ, List.set_cons_zero,
      List.take_succ_eq_append_getElem hjl, hcl, List.append_assoc]
    rfl
  unfold firsts cells
  rw [← e, List.map_set]
  simp
theorem lt_of_row {w : World} {g : Nat} {o : Obj} (h : w.heap[g]? = some o) : g < w.heap.size := (Array.getElem?_eq_some_iff.1 h).1

/-- What a change makes of a number, by a name. -/
theorem times_hid (M : Array Value) (k x y : Nat) (hM : Hid (M = cells (cols k))) (hx : x < 2 ^ 32) (hy : Hid (hk k x = y)) (w : World) :
    Calls Tryd.prog 18 #[.agg M, .int .u32 (x : Int)] w fun e w' => e = .returned (.int .u32 (y : Int)) ∧ Below w.heap.size w w' := by
  have := times_any M k x hM.out hx w
  rwa [hy.out] at this

set_option maxHeartbeats 400000 in
theorem squared_any (M : Array Value) (k : Nat) (hM : M = cells (cols k)) (w : World) :
    Calls Tryd.prog 17 #[.agg M] w fun e w' => e = .returned (.agg (cells (cols (2 * k)))) ∧ Below w.heap.size w w' := by
  have HM := Lib.hid hM
  have hs : M.size = 32 := by rw [hM, cells_size, cols_length]
  have HS := Lib.hid hs
  have hz := (zero_of_info zero39).1
  clear hM hs
  go_enter Tryd.func17, Tryd.ntmps17
  go_wp2_with (refine wpList_load_row rfl 39 _ rfl w.heap.size rfl 39 M (0, 0) _ ?hg1 Tryd.underlying39 rfl (by rw [HS.out]; exact info39) ?_)
  case hg1 => rw [Below.heap_alloc _ _ _ (by simp only [World.size_alloc]; omega), Below.heap_alloc _ _ _ (by simp)]; exact heap_alloc_new _ _
  go_loopw [7] (fun i wr => ∃ j : Nat, j ≤ 32 ∧ i = .int .i64 j ∧ Hid (wr.heap[w.heap.size]? = some (.cells M 39)) ∧ Hid (wr.heap[w.heap.size + 1]? = some (.cells noCols 39)) ∧
      Hid (wr.heap[w.heap.size + 1 + 1]? = some (.cells (firsts (cols (2 * k)) j) 39)) ∧ Below w.heap.size w wr)
    (fun i _ => 32 - (intOf i).toNat)
  case atStart =>
    refine ⟨0, by omega, rfl, ?_, ?_, ?_, (((Below.refl _ _).alloc (Nat.le_refl _) _).alloc (by simp) _).alloc (by simp; omega) _⟩
    · show _ = _
      rw [Below.heap_alloc _ _ _ (by simp only [World.size_alloc]; omega), Below.heap_alloc _ _ _ (by simp)]; exact heap_alloc_new _ _
    · show _ = _
      rw [Below.heap_alloc _ _ _ (by simp)]
      have := heap_alloc_new (w.alloc (.cells M 39)) (.cells noCols 39)
      simpa using this
    · show _ = _
      rw [firsts_zero]
      have := heap_alloc_new ((w.alloc (.cells M 39)).alloc (.cells noCols 39)) (.cells noCols 39)
      simpa using this
  case round =>
    obtain ⟨j, hj, rfl, H0, H1, H2, hbel⟩ := hrel
    by_cases hlt : j < 32
    · obtain ⟨c, hc⟩ : ∃ c, c = hk k (2 ^ j) := ⟨_, rfl⟩
      have hv : M[j]? = some (.int .u32 (c : Int)) := by rw [HM.out, hc]; exact cells_get _ _ _ (cols_get k j hlt)
      have hix := fun w => run_index_cell (P := Tryd.prog) w 39 22 .u32 32 M .i64 j _ Tryd.underlying39 Tryd.underlying22 (sz32 w) hlt hv
      have hcl : c < 2 ^ 32 := by rw [hc]; exact hk_lt k (Nat.pow_lt_pow_right (by decide) hlt)
      have HC := Lib.hid hc
      clear hc hv
      go_wp2_with (refine wpList_load_row rfl 39 _ rfl w.heap.size rfl 39 M (0, 0) _ H0.out Tryd.underlying39 rfl (by rw [HS.out]; exact info39) ?_)
      obtain ⟨d, hd⟩ : ∃ d, hk k c = d := ⟨_, rfl⟩
      have HD := Lib.hid hd
      refine (times_hid M k c d HM hcl HD _).mono ?_
      clear hd
      rintro e w1 ⟨rfl, hb1⟩
      have B0 : Hid (w1.heap[w.heap.size]? = some (.cells M 39)) := (hb1.block _ (lt_of_row H0.out)).trans H0.out
      have B1 : Hid (w1.heap[w.heap.size + 1]? = some (.cells noCols 39)) := (hb1.block _ (lt_of_row H1.out)).trans H1.out
      have B2 : Hid (w1.heap[w.heap.size + 1 + 1]? = some (.cells (firsts (cols (2 * k)) j) 39)) := (hb1.block _ (lt_of_row H2.out)).trans H2.out
      have hcell : w1.cell? ⟨w.heap.size + 1 + 1, j, none⟩ = some (.int .u32 (0 : Int)) := by
        rw [cell_of_row _ _ j _ _ _ B2.out]; exact firsts_get _ _ (cols_length _) hlt
      have hfr : w1.frozen? ⟨w.heap.size + 1 + 1, j, none⟩ = false := frozen_of_row _ _ j _ _ B2.out
      have hbel1 : Below w.heap.size w w1 := hbel.trans (hb1.mono hbel.size)
      clear hbel hb1
      go_wp2
      go_roundw
      case rel =>
        refine ⟨j + 1, by omega, by go_num, ?_, ?_, ?_, hbel1.setCell (by show w.heap.size ≤ w.heap.size + 1 + 1; omega) _⟩
        · exact (heap_setCell_other _ _ _ _ (by show w.heap.size ≠ w.heap.size + 1 + 1; omega)).trans B0.out
        · exact (heap_setCell_other _ _ _ _ (by show w.heap.size + 1 ≠ w.heap.size + 1 + 1; omega)).trans B1.out
        · show _ = _
          rw [heap_setCell_same _ _ _ _ _ _ B2.out, firsts_set _ _ d (cols_length _) hlt (by rw [cols_get _ _ hlt, ← HD.out, HC.out, hk_twice])]
      case measure => simp [intOf]; omega
    · have hj' : j = 32 := by omega
      subst hj'
      rw [firsts_all _ (cols_length _)] at H2
      obtain ⟨C, hC⟩ : ∃ C, C = cells (cols (2 * k)) := ⟨_, rfl⟩
      have hsz : C.size = 32 := by rw [hC, cells_size, cols_length]
      have hone : C.all (·.oneCell') = true := by rw [hC]; simp [cells, Value.oneCell']
      rw [← hC] at H2
      have HZ := Lib.hid hsz
      have HC := Lib.hid hC
      have HO := Lib.hid hone
      clear hsz hC hone
      go_wp2_with (first
        | (refine wpList_load_row rfl 39 _ rfl (w.heap.size + 1 + 1) rfl 39 C (0, 0) _ H2.out Tryd.underlying39 rfl (by rw [HZ.out]; exact info39) ?_)
        | (refine wpList_store_row rfl 39 _ _ rfl (w.heap.size + 1) C rfl rfl 39 noCols H1.out (by rw [HZ.out]; exact info39) (by rw [HZ.out, noCols_size]) HO.out ?_))
      have hbel1 : Below w.heap.size w (wr.setRow (w.heap.size + 1) C) := below_setRow hbel (by omega) _
      have hrow : (wr.setRow (w.heap.size + 1) C).heap[w.heap.size + 1]? = some (.cells C 39) := setRow_heap _ _ _ _ _ _ H1.out
      refine bodyPost_ret (v := .agg C) ?_ rfl ⟨by rw [HC.out], hbel1⟩
      exact results_cell_row (P := Tryd.prog) (fn := Tryd.f17) rfl _ _ (w.heap.size + 1) 39 C (0, 0) _ rfl hrow Tryd.underlying39 rfl (by rw [HZ.out]; exact info39)
end Go.Proofs.YtokfkihcofpfpaaDoor.MatB
