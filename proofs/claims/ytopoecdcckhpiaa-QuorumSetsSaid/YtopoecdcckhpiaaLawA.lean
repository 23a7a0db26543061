/- The statement on sets, walked. -/
import Derived.Test.YtopoecdcckhpiaaBegun
namespace Go.Proofs.Ytopoecdcckhpiaa.LawA
open Go.RowKit Go.Proofs.Ytopoecdcckhpiaa.Kit Go.Proofs.Ytopoecdcckhpiaa.Blocks Go.Proofs.Ytopoecdcckhpiaa.Quorum Go.Proofs.Ytopoecdcckhpiaa.WalkA Go.Proofs.Ytopoecdcckhpiaa.WalkB Go.Proofs.Ytopoecdcckhpiaa.WalkC Go.Proofs.Ytopoecdcckhpiaa.WalkD Go.Proofs.Ytopoecdcckhpiaa.Told Go.Proofs.Ytopoecdcckhpiaa.Sorting Go.Proofs.Ytopoecdcckhpiaa.Reach Go.Proofs.Ytopoecdcckhpiaa.RefReach Go.Proofs.Ytopoecdcckhpiaa.Change Go.Proofs.Ytopoecdcckhpiaa.Begun

set_option maxHeartbeats 2000000 in
set_option maxRecDepth 100000 in
theorem sets_any (c s : Nat) (n : Int) (w : World) (hc : c < 2 ^ 64) (hs : s < 2 ^ 64) : Calls Try.prog 3 #[.int .u64 (c : Int), .int .u64 (s : Int), .int .i64 n] w fun e w' => e = .returned (.bool true) ∧ Below w.heap.size w w' := by
  have h1 := sound_any c hc
  have h2 := rsound_any c hc
  have h3 := has_any c hc n
  have h4 := rhas_any c hc n
  have h5 := mem_any c hc
  have h6 := rmem_any c hc
  have h7 := need_any c hc
  have h8 := rneed_any c hc
  have h9 := maj_any c s hc hs
  have h10 := rmaj_any c s hc hs
  have h7' := size_le c
  have HL : Hid ((mem c).length = size c) := rfl
  generalize sound c = b1 at h1 h2
  generalize has c n = b2 at h3 h4
  generalize need c = k at h7 h8
  generalize maj c s = b3 at h9 h10
  obtain ⟨m, hm⟩ : ∃ m, size c = m := ⟨_, rfl⟩
  rw [hm] at HL h7'
  clear hm
  have e1 : (b1 == b1) = true := by simp
  have e2 : (b2 == b2) = true := by simp
  have e3 : (b3 == b3) = true := by simp
  have e4 : ((k : Int) == (k : Int)) = true := by simp
  go_enter Try.func3, Try.ntmps3
  go_wp2_with fail
  refine (begun_any _).mono ?_
  rintro e wa ⟨rfl, hba⟩
  go_wp2_with fail
  refine (h1 _).mono ?_
  rintro e _ ⟨rfl, rfl⟩
  go_wp2_with fail
  refine (h2 _).mono ?_
  rintro e _ ⟨rfl, rfl⟩
  go_wp2_with fail
  refine (h3 _).mono ?_
  rintro e _ ⟨rfl, rfl⟩
  go_wp2_with fail
  refine (h4 _).mono ?_
  rintro e _ ⟨rfl, rfl⟩
  go_wp2_with fail
  refine (h5 _).mono ?_
  rintro e wb ⟨v1, rfl, ho1, hbb⟩
  rw [HL.out] at ho1
  obtain ⟨A1, c1, rfl, _⟩ := own_form ho1
  go_wp2_with fail
  refine (h6 _).mono ?_
  rintro e wc ⟨v2, rfl, ho2, hbc⟩
  rw [HL.out] at ho2
  obtain ⟨A2, c2, rfl, _⟩ := own_form ho2
  have hr2 := Reads.of_own ho2
  have hr1 := Reads.of_own (own_below ho1 hbc)
  have hbw : Below w.heap.size w wc := (hba.trans (hbb.mono hba.size)).trans (hbc.mono (Nat.le_trans hba.size hbb.size))
  clear ho1 ho2 hba hbb hbc
  go_wp2_with fail
  refine (ints_same A1 A2 c1 c2 m (mem c) _ hr1 hr2 (by omega)).mono ?_
  rintro e wd ⟨rfl, hbd⟩
  have hbx : Below w.heap.size w wd := hbw.trans (hbd.mono hbw.size)
  clear hr1 hr2 hbd hbw
  go_wp2_with fail
  refine (h7 _).mono ?_
  rintro e _ ⟨rfl, rfl⟩
  go_wp2_with fail
  refine (h8 _).mono ?_
  rintro e we ⟨rfl, hbe⟩
  have hby : Below w.heap.size w we := hbx.trans (hbe.mono hbx.size)
  clear hbe hbx
  go_wp2_with fail
  refine (h9 _).mono ?_
  rintro e _ ⟨rfl, rfl⟩
  go_wp2_with fail
  refine (h10 _).mono ?_
  rintro e wf ⟨rfl, hbf⟩
  have hbz : Below w.heap.size w wf := hby.trans (hbf.mono hby.size)
  go_wp2
  go_ret
  exact ⟨rfl, hbz⟩
theorem sets_walk (x y n : Int) (w : World) (hx : (Lit.int .u64 x).wf = true) (hy : (Lit.int .u64 y).wf = true) (_hn : (Lit.int .i64 n).wf = true) : Calls Try.prog 3 #[.int .u64 x, .int .u64 y, .int .i64 n] w fun e w' => e = .returned (.bool true) ∧ Below w.heap.size w w' := by
  obtain ⟨c, rfl, hc⟩ := u64_nat hx
  obtain ⟨s, rfl, hs⟩ := u64_nat hy
  exact sets_any c s n w hc hs
end Go.Proofs.Ytopoecdcckhpiaa.LawA
