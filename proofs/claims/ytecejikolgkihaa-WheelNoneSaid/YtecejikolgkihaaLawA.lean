/- The walk of the statement that a wheel that is none has no time and no timers. -/
import Derived.Test.YtecejikolgkihaaBegun
set_option linter.unusedVariables false
namespace Go.Proofs.Ytecejikolgkihaa.LawA
open Go.RowKit Go.Proofs.Ytecejikolgkihaa.Kit Go.Proofs.Ytecejikolgkihaa.Blocks Go.Proofs.Ytecejikolgkihaa.Whl Go.Proofs.Ytecejikolgkihaa.WalkD Go.Proofs.Ytecejikolgkihaa.WalkE Go.Proofs.Ytecejikolgkihaa.WalkF Go.Proofs.Ytecejikolgkihaa.WalkG Go.Proofs.Ytecejikolgkihaa.WalkI Go.Proofs.Ytecejikolgkihaa.Sol Go.Proofs.Ytecejikolgkihaa.Begun

set_option maxRecDepth 100000 in
set_option maxHeartbeats 2000000 in
theorem none_any (id dl : Int) (w : World) (h0 : -9223372036854775808 ≤ dl) (h1 : dl ≤ 9223372036854775807) : Calls Try.prog 7 #[.int .i64 id, .int .i64 dl] w fun e w' => e = .returned (.bool true) ∧ Below w.heap.size w w' := by
  go_enter Try.func7, Try.ntmps7
  go_wp2_with fail
  with_reducible refine (begun_true _).mono ?_
  rintro e w1 ⟨rfl, hb1⟩
  go_wp2_with fail
  with_reducible refine (now_nil _).mono ?_
  rintro e w2 ⟨rfl, hb2⟩
  go_wp2_with fail
  with_reducible refine (len_nil _).mono ?_
  rintro e w3 ⟨rfl, hb3⟩
  go_wp2_with fail
  with_reducible refine (set_nil id dl _).mono ?_
  rintro e w4 ⟨rfl, hb4⟩
  go_wp2_with fail
  with_reducible refine (stop_nil id _).mono ?_
  rintro e w5 ⟨rfl, hb5⟩
  go_wp2_with fail
  with_reducible refine (due_nil _).mono ?_
  rintro e w6 ⟨rfl, hb6⟩
  go_wp2_with fail
  with_reducible refine (tick_nil _).mono ?_
  rintro e w7 ⟨rfl, hb7⟩
  have b2 := hb1.trans (hb2.mono hb1.size)
  have b3 := b2.trans (hb3.mono b2.size)
  have b4 := b3.trans (hb4.mono b3.size)
  have b5 := b4.trans (hb5.mono b4.size)
  have b6 := b5.trans (hb6.mono b5.size)
  have b7 := b6.trans (hb7.mono b6.size)
  have B7 := Lib.hid b7
  clear hb1 hb2 hb3 hb4 hb5 hb6 hb7 b2 b3 b4 b5 b6 b7
  go_wp2_with fail
  with_reducible refine (new_S (B := w.heap.size) _ B7.out.size).mono ?_
  rintro e w8 ⟨p, rfl, hw8, hb8⟩
  go_wp2_with fail
  by_cases hd : dl < 1 ∨ 1048576 < dl
  · have hc : setc 0 [] id dl = 1 := by unfold setc; rw [if_pos hd]
    with_reducible refine (set_lit hw8 (by decide) hc rfl).mono ?_
    rintro e w9 ⟨rfl, hw9, hb9⟩
    have hB := (B7.out.trans hb8).trans hb9
    have HB := Lib.hid hB
    clear hB hb8 hb9 hw8 hw9 hc
    rcases hd with hd | hd
    · have hd' : ¬ 1 ≤ dl := by omega
      go_wp2
      go_ret
      exact ⟨rfl, HB.out⟩
    · have hd' : 1 ≤ dl := by omega
      have hd2 : (!decide (dl ≤ 1048576)) = true := by simp; omega
      go_wp2
      go_ret
      exact ⟨rfl, HB.out⟩
  · have hc : setc 0 [] id dl = 0 := by unfold setc; rw [if_neg hd]; rfl
    with_reducible refine (set_lit hw8 (by decide) hc rfl).mono ?_
    rintro e w9 ⟨rfl, hw9, hb9⟩
    have hB := (B7.out.trans hb8).trans hb9
    have HB := Lib.hid hB
    have hd' : 1 ≤ dl := by omega
    have hd2 : dl ≤ 1048576 := by omega
    clear hB hb8 hb9 hw8 hw9 hc hd
    go_wp2
    go_ret
    exact ⟨rfl, HB.out⟩
theorem none_walk (id dl : Int) (w : World) (_ : (Lit.int .i64 id).wf = true) (h : (Lit.int .i64 dl).wf = true) : Calls Try.prog 7 #[.int .i64 id, .int .i64 dl] w fun e w' => e = .returned (.bool true) ∧ Below w.heap.size w w' :=
  none_any id dl w (i64_wf h).1 (i64_wf h).2
end Go.Proofs.Ytecejikolgkihaa.LawA
