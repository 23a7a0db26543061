/- The statement on changes, walked. -/
import Derived.Test.YtopoecdcckhpiaaBegun
namespace Go.Proofs.Ytopoecdcckhpiaa.LawC
open Go.RowKit Go.Proofs.Ytopoecdcckhpiaa.Kit Go.Proofs.Ytopoecdcckhpiaa.Blocks Go.Proofs.Ytopoecdcckhpiaa.Quorum Go.Proofs.Ytopoecdcckhpiaa.WalkA Go.Proofs.Ytopoecdcckhpiaa.WalkB Go.Proofs.Ytopoecdcckhpiaa.WalkC Go.Proofs.Ytopoecdcckhpiaa.WalkD Go.Proofs.Ytopoecdcckhpiaa.Told Go.Proofs.Ytopoecdcckhpiaa.Sorting Go.Proofs.Ytopoecdcckhpiaa.Reach Go.Proofs.Ytopoecdcckhpiaa.RefReach Go.Proofs.Ytopoecdcckhpiaa.Change Go.Proofs.Ytopoecdcckhpiaa.Begun

theorem change_zero {c : Nat} {add : Bool} {n : Int} (h : (change c add n).2 ≠ 0) : (change c add n).1 = 0 := by
  unfold change turn at *
  split
  · split
    · rfl
    · rename_i h1 h2
      rw [if_pos h1, if_neg h2] at h
      exact absurd rfl h
  · rfl
theorem change_two {c : Nat} {add : Bool} {n : Int} : (change c add n).2 ≤ 32 := by
  unfold change turn
  split
  · split <;> simp
  · simp
/-- A change that is taken. -/
theorem change_taken {c : Nat} {add : Bool} {n : Int} (h : (change c add n).2 = 0) : ∃ i : Nat, n = (i : Int) ∧ i < 7 ∧ 0 < c ∧ c < 128 ∧ change c add n = turn c add i ∧ (turn c add i).2 = 0 ∧
    0 < (change c add n).1 ∧ (change c add n).1 < 128 ∧ (change c add n).1.testBit i = add ∧ change (change c add n).1 (!add) n = (c, 0) := by
  by_cases hh : sound c = true ∧ node n = true
  · obtain ⟨i, rfl, hi⟩ := node_nat hh.2
    have hl := sound_lt hh.1
    have e := change_yes (add := add) hh.1 hi
    rw [e] at h ⊢
    obtain ⟨h1, h2, h3, h4⟩ := turn_back hl.2 hl.1 hi h
    refine ⟨i, rfl, hi, hl.1, hl.2, rfl, h, h1, h2, h3, ?_⟩
    rw [change_yes (decide_eq_true ⟨h1, h2⟩) hi]
    exact h4
  · rw [change_no hh] at h
    simp at h
/-- A call of Change by a name. -/
theorem change_hid {c : Nat} {add : Bool} {n : Int} {d k : Nat} (hc : c < 2 ^ 64) (h : Hid (change c add n = (d, k))) (w : World) : Calls Try.prog 23 #[.int .u64 (c : Int), .bool add, .int .i64 n] w fun e w' => e = .returned (.tuple #[.int .u64 (d : Int), .int .i64 (k : Int)]) ∧ w = w' := by
  have := change_any c hc add n w
  rwa [h.out] at this
theorem rchange_hid {c : Nat} {add : Bool} {n : Int} {d k : Nat} (hc : c < 2 ^ 64) (h : Hid (change c add n = (d, k))) (w : World) : Calls Try.prog 24 #[.int .u64 (c : Int), .bool add, .int .i64 n] w fun e w' => e = .returned (.tuple #[.int .u64 (d : Int), .int .i64 (k : Int)]) ∧ Below w.heap.size w w' := by
  have := rchange_any c hc add n w
  rwa [h.out] at this

set_option maxHeartbeats 2000000 in
set_option maxRecDepth 100000 in
theorem changes_any (c : Nat) (add : Bool) (n : Int) (w : World) (hc : c < 2 ^ 64) : Calls Try.prog 5 #[.int .u64 (c : Int), .bool add, .int .i64 n] w fun e w' => e = .returned (.bool true) ∧ Below w.heap.size w w' := by
  obtain ⟨d, hd⟩ : ∃ d, (change c add n).1 = d := ⟨_, rfl⟩
  obtain ⟨k, hk⟩ : ∃ k, (change c add n).2 = k := ⟨_, rfl⟩
  have hp : change c add n = (d, k) := Prod.ext hd hk
  have HP := Lib.hid hp
  have h2 : k ≤ 32 := by rw [← hk]; exact change_two
  by_cases hk0 : k = 0
  · obtain ⟨i, rfl, hi, _, _, _, _, h5, h6, h7, h8⟩ := change_taken (hk.trans hk0)
    rw [hd] at h5 h6 h7 h8
    have HB := Lib.hid h8
    have hs := fun w => sound_any d (by omega) w
    have hsd : sound d = true := decide_eq_true ⟨h5, h6⟩
    simp only [hsd] at hs
    have hh := fun w => has_any d (by omega) (i : Int) w
    simp only [has_nat d hi, h7] at hh
    subst hk0
    have hdl : d < 2 ^ 64 := by omega
    have e1 : ((d : Int) == (d : Int)) = true := by simp
    have e2 : ((c : Int) == (c : Int)) = true := by simp
    have e3 : (add == add) = true := by simp
    clear hp hd hk h8 hsd h7
    go_enter Try.func5, Try.ntmps5
    go_wp2_with fail
    refine (begun_any _).mono ?_
    rintro e wa ⟨rfl, hba⟩
    go_wp2_with fail
    refine (change_hid hc HP _).mono ?_
    rintro e _ ⟨rfl, rfl⟩
    go_wp2_with fail
    refine (rchange_hid hc HP _).mono ?_
    rintro e wb ⟨rfl, hbb⟩
    have hbz : Below w.heap.size w wb := hba.trans (hbb.mono hba.size)
    clear hba hbb
    go_wp2_with fail
    refine (change_hid hdl HB _).mono ?_
    rintro e _ ⟨rfl, rfl⟩
    go_wp2_with fail
    refine (hs _).mono ?_
    rintro e _ ⟨rfl, rfl⟩
    go_wp2_with fail
    refine (hh _).mono ?_
    rintro e _ ⟨rfl, rfl⟩
    go_wp2
    go_ret
    exact ⟨rfl, hbz⟩
  · obtain rfl : d = 0 := hd.symm.trans (change_zero (by rw [hk]; exact hk0))
    have e1 : ((k : Int) != 0) = true := by simp; omega
    have e2 : ((k : Int) == (k : Int)) = true := by simp
    clear hp hd hk
    go_enter Try.func5, Try.ntmps5
    go_wp2_with fail
    refine (begun_any _).mono ?_
    rintro e wa ⟨rfl, hba⟩
    go_wp2_with fail
    refine (change_hid hc HP _).mono ?_
    rintro e _ ⟨rfl, rfl⟩
    go_wp2_with fail
    refine (rchange_hid hc HP _).mono ?_
    rintro e wb ⟨rfl, hbb⟩
    have hbz : Below w.heap.size w wb := hba.trans (hbb.mono hba.size)
    clear hba hbb
    go_wp2
    go_ret
    exact ⟨rfl, hbz⟩
theorem changes_walk (x : Int) (add : Bool) (n : Int) (w : World) (hx : (Lit.int .u64 x).wf = true) (_hn : (Lit.int .i64 n).wf = true) : Calls Try.prog 5 #[.int .u64 x, .bool add, .int .i64 n] w fun e w' => e = .returned (.bool true) ∧ Below w.heap.size w w' := by
  obtain ⟨c, rfl, hc⟩ := u64_nat hx
  exact changes_any c add n w hc
end Go.Proofs.Ytopoecdcckhpiaa.LawC
