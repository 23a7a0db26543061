/- Whether a saga can be, the document's word, walked: a cursor within the steps. No statement is proved here. -/
import Derived.Test.YthaepkpmpnofgaaGreatHWays
import Derived.Test.YthaepkpmpnofgaaGreatHStl
import Derived.BigQuiet
import Derived.BigRegion
import Derived.Deep.QuietTactic
set_option linter.unusedVariables false
set_option linter.unusedSimpArgs false
namespace Go.Proofs.YthaepkpmpnofgaaGreat.WalkRi
open Go.RowKit Go.Proofs.YthaepkpmpnofgaaGreat.Kit Go.Proofs.YthaepkpmpnofgaaGreat.Stq Go.Proofs.YthaepkpmpnofgaaGreat.Pln Go.Proofs.YthaepkpmpnofgaaGreat.Sag Go.Proofs.YthaepkpmpnofgaaGreat.SagAt Go.Proofs.YthaepkpmpnofgaaGreat.Ways Go.Proofs.YthaepkpmpnofgaaGreat.Stl
open Go.Proofs.YthaepkpmpnofgaaGreat.PlnWalkB (rcheck_any)
open Go.Proofs.YthaepkpmpnofgaaGreat.State (cell_at free_at lt_at)

set_option maxRecDepth 100000 in
set_option maxHeartbeats 16000000 in
theorem rsound_in {w : World} {A : Option Addr} {c : Nat} {s : Sg} (h : At w A s.l) (hz : chk s.l = 0) (hcu : 0 ≤ s.cu ∧ s.cu < s.l.length) {b : Bool} (hb : Hid (sound s = b)) :
    Calls Tryz.prog 74 #[sgV A c s] w fun e w' => e = .returned (.bool b) ∧ Below w.heap.size w w' := by
  have hway := Lib.hid (sgWays s hz b hb.out)
  obtain ⟨l, st, cu, fa⟩ := s
  simp only at h hz hcu
  have hbo : Below w.heap.size w (w.alloc (.cells #[.slice A l.length c, .int .i64 st, .int .i64 cu, .int .i64 fa] 49)) := (Below.refl _ _).alloc (Nat.le_refl _) _
  have hx0 := Box4.new w (.slice A l.length c) (.int .i64 st) (.int .i64 cu) (.int .i64 fa)
  have h0 := h.below hbo
  obtain ⟨w1, hw1⟩ : ∃ w1, w.alloc (.cells #[.slice A l.length c, .int .i64 st, .int .i64 cu, .int .i64 fa] 49) = w1 := ⟨_, rfl⟩
  rw [hw1] at hbo hx0 h0
  have HW1 := Lib.hid hw1
  have HZ := Lib.hid hz
  unfold sgV
  simp only
  clear hw1 h hb hz
  go_enter Tryz.func74, Tryz.ntmps74
  go_wp2_with fail
  rw [HW1.out]
  go_wp2_with fail
  with_reducible refine (rcheck_any h0.rs h0.few h0.nm HZ).mono ?_
  rintro e w2 ⟨rfl, hb2⟩
  have hx := (hx0.below hb2).below (Below.refl _ w2).drew
  have hB := hbo.trans (hb2.mono hbo.size)
  have hrs := rs_later h0.rs hb2
  have x0 := (hx0.below hb2).c0
  have x1 := (hx0.below hb2).c1
  have x2 := (hx0.below hb2).c2
  have x3 := (hx0.below hb2).c3
  have HHB := Lib.hid hB
  have HRS := Lib.hid hrs
  have HX := Lib.hid hx
  clear hx0 h0 hb2 hbo hx hB hrs
  obtain ⟨j0, j1⟩ := hcu
  obtain ⟨k, rfl⟩ := Int.eq_ofNat_of_zero_le j0
  obtain ⟨bk, o, e, rfl, hbl, he, hthree⟩ := RS.at_ HRS.out (show k < l.length by omega)
  have hbu := bud_at he
  have t2 := hthree.c2
  have hkl : (k : Int) < (l.length : Int) := j1
  obtain ⟨pt, nm, bg⟩ := e
  simp only at t2 hbu
  have HBU := Lib.hid hbu
  clear hthree he hbu
  go_wp2_with fail
  simp only [List.append_eq, List.cons_append, List.nil_append]
  refine wp_region_quiet_lit (by kernel_rfl) (by kernel_rfl) ?_
  rcases hway.out with ⟨-, hin⟩ | ⟨hi, rfl, hs⟩ | ⟨i0, i1, rfl, rfl⟩ | ⟨⟨i0, i1⟩, rfl, hs⟩ | ⟨hi, hs, rfl, rfl⟩ | ⟨hi, rfl, s1, s2, s3, s4, s5⟩
  · rw [HBU.out] at hin
    rcases hin with ⟨rfl, hin⟩ | ⟨rfl, hin⟩ | ⟨rfl, q, rfl⟩ | ⟨rfl, hin⟩ | ⟨rfl, hin⟩
    · rcases hin with ⟨q, rfl⟩ | ⟨q, rfl⟩
      · clear hway HW1 HZ HRS HX
        repeat (go_big_quiet_step (fail))
        refine wpQuiet_nil ?_
        intro _ hw'
        obtain ⟨nq, hw''⟩ := hw'
        subst hw''
        go_wp2
        go_ret
        exact ⟨rfl, below_drewN HHB.out _⟩
      · clear hway HW1 HZ HRS HX
        repeat (go_big_quiet_step (fail))
        refine wpQuiet_nil ?_
        intro _ hw'
        obtain ⟨nq, hw''⟩ := hw'
        subst hw''
        go_wp2
        go_ret
        exact ⟨rfl, below_drewN HHB.out _⟩
    · rcases hin with ⟨q, q1, rfl⟩ | ⟨q, rfl⟩ | ⟨q, q1, rfl⟩
      · clear hway HW1 HZ HRS HX
        repeat (go_big_quiet_step (fail))
        refine wpQuiet_nil ?_
        intro _ hw'
        obtain ⟨nq, hw''⟩ := hw'
        subst hw''
        go_wp2
        go_ret
        exact ⟨rfl, below_drewN HHB.out _⟩
      · have qd1 : decide ((0 : Int) ≤ fa) = false := decide_eq_false (by omega)
        clear hway HW1 HZ HRS HX
        repeat (go_big_quiet_step (fail))
        refine wpQuiet_nil ?_
        intro _ hw'
        obtain ⟨nq, hw''⟩ := hw'
        subst hw''
        go_wp2
        go_ret
        exact ⟨rfl, below_drewN HHB.out _⟩
      · have qd1 : decide (fa < bg) = false := decide_eq_false (by omega)
        clear hway HW1 HZ HRS HX
        repeat (go_big_quiet_step (fail))
        refine wpQuiet_nil ?_
        intro _ hw'
        obtain ⟨nq, hw''⟩ := hw'
        subst hw''
        go_wp2
        go_ret
        exact ⟨rfl, below_drewN HHB.out _⟩
    · clear hway HW1 HZ HRS HX
      repeat (go_big_quiet_step (fail))
      refine wpQuiet_nil ?_
      intro _ hw'
      obtain ⟨nq, hw''⟩ := hw'
      subst hw''
      go_wp2
      go_ret
      exact ⟨rfl, below_drewN HHB.out _⟩
    · rcases hin with ⟨q, q1, rfl⟩ | ⟨q, q1, rfl⟩ | ⟨q, rfl⟩
      · clear hway HW1 HZ HRS HX
        repeat (go_big_quiet_step (fail))
        refine wpQuiet_nil ?_
        intro _ hw'
        obtain ⟨nq, hw''⟩ := hw'
        subst hw''
        go_wp2
        go_ret
        exact ⟨rfl, below_drewN HHB.out _⟩
      · clear hway HW1 HZ HRS HX
        repeat (go_big_quiet_step (fail))
        refine wpQuiet_nil ?_
        intro _ hw'
        obtain ⟨nq, hw''⟩ := hw'
        subst hw''
        go_wp2
        go_ret
        exact ⟨rfl, below_drewN HHB.out _⟩
      · clear hway HW1 HZ HRS HX
        repeat (go_big_quiet_step (fail))
        refine wpQuiet_nil ?_
        intro _ hw'
        obtain ⟨nq, hw''⟩ := hw'
        subst hw''
        go_wp2
        go_ret
        exact ⟨rfl, below_drewN HHB.out _⟩
    · rcases hin with ⟨q, rfl⟩ | ⟨q, rfl⟩
      · clear hway HW1 HZ HRS HX
        repeat (go_big_quiet_step (fail))
        refine wpQuiet_nil ?_
        intro _ hw'
        obtain ⟨nq, hw''⟩ := hw'
        subst hw''
        go_wp2
        go_ret
        exact ⟨rfl, below_drewN HHB.out _⟩
      · clear hway HW1 HZ HRS HX
        repeat (go_big_quiet_step (fail))
        refine wpQuiet_nil ?_
        intro _ hw'
        obtain ⟨nq, hw''⟩ := hw'
        subst hw''
        go_wp2
        go_ret
        exact ⟨rfl, below_drewN HHB.out _⟩
  · exfalso; omega
  · exfalso; omega
  · exfalso; omega
  · exfalso; omega
  · clear hway HW1 HZ HRS HX
    repeat (go_big_quiet_step (fail))
    refine wpQuiet_nil ?_
    intro _ hw'
    obtain ⟨nq, hw''⟩ := hw'
    subst hw''
    go_wp2
    go_ret
    exact ⟨rfl, below_drewN HHB.out _⟩
end Go.Proofs.YthaepkpmpnofgaaGreat.WalkRi
