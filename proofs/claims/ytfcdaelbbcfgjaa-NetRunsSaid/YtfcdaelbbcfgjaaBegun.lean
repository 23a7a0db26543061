/- What each statement of layer 10 asks first, walked: the second of two letters is taken. -/
import Derived.Test.YtfcdaelbbcfgjaaSol
set_option linter.unusedVariables false
namespace Go.Proofs.Ytfcdaelbbcfgjaa.Begun
open Go.RowKit Go.Proofs.Ytfcdaelbbcfgjaa.Kit Go.Proofs.Ytfcdaelbbcfgjaa.Blocks Go.Proofs.Ytfcdaelbbcfgjaa.Ltr Go.Proofs.Ytfcdaelbbcfgjaa.NAt Go.Proofs.Ytfcdaelbbcfgjaa.WalkA Go.Proofs.Ytfcdaelbbcfgjaa.Sol

set_option maxRecDepth 100000 in
set_option maxHeartbeats 4000000 in
theorem begun_true (w : World) : Calls Try.prog 8 #[] w fun e w' => e = .returned (.bool true) ∧ Below w.heap.size w w' := by
  go_enter Try.func8, Try.ntmps8
  go_wp2_with fail
  with_reducible refine (new_W w.heap.size _ (Nat.le_refl _)).mono ?_
  rintro e w1 ⟨p, rfl, h1, hb1⟩
  go_wp2_with fail
  with_reducible refine (send_lit h1 (by decide) 1 0).mono ?_
  rintro e w2 ⟨rfl, h2, hb2⟩
  go_wp2_with fail
  with_reducible refine (send_lit h2 (by decide) 2 0).mono ?_
  rintro e w3 ⟨rfl, h3, hb3⟩
  go_wp2_with fail
  with_reducible refine (take_W h3 (by decide) (by decide) 3).mono ?_
  rintro e w4 ⟨x, d, hd, hx, rfl, h4, hb4⟩
  have hd2 : d = lit 2 0 := by
    have e1 : plc 3 ([] ++ [lit 1 0] ++ [lit 2 0]).length = 1 := by decide
    rw [e1] at hd
    exact (Option.some.inj hd).symm
  subst hd2
  have e4 : ([] ++ [lit 1 0] ++ [lit 2 0] : List Sd).eraseIdx (plc 3 ([] ++ [lit 1 0] ++ [lit 2 0] : List Sd).length) = [lit 1 0] := by
    have e1 : plc 3 ([] ++ [lit 1 0] ++ [lit 2 0]).length = 1 := by decide
    rw [e1]
    rfl
  rw [e4] at h4
  obtain ⟨hs, hf⟩ := hx
  obtain ⟨⟨k, f, t, tm, ix, pv, cm, ok, d⟩, A, n, c, es⟩ := x
  have hk : k = 2 := congrArg (fun y : Sd => y.1.k) hs
  subst hk
  have hb5 : ∀ o, Below w4.heap.size w4 (w4.alloc o) := fun o => (Below.refl _ _).alloc (Nat.le_refl _) _
  have h5 := fun o => h4.below (hb5 o)
  have HB : Hid (∀ o, Below w.heap.size w (w4.alloc o)) := fun o => (((hb1.trans hb2).trans hb3).trans hb4).trans ((hb5 o).mono (Nat.le_trans (Nat.le_trans (Nat.le_trans hb1.size hb2.size) hb3.size) hb4.size))
  have hcnt := fun o => count_W (h5 o)
  have HC := Lib.hid hcnt
  clear hs hf hd hb5 h5 hcnt h4 h3 h2 h1 hb1 hb2 hb3 hb4 e4
  have hy := heap_alloc_new w4 (.cells #[.int .i64 2, .int .i64 f, .int .i64 t, .int .u64 tm, .int .u64 ix, .int .u64 pv, .int .u64 cm, .bool ok, .slice A n c, .string d] 34)
  have HY := Lib.hid hy
  clear hy
  unfold ltV
  simp only
  go_wp2_with fail
  with_reducible refine (HC.out _).mono ?_
  rintro e w5 ⟨rfl, h5, hb5⟩
  have hy5 := (hb5.block _ (lt_at HY.out)).trans HY.out
  have y0 : w5.cell? ⟨w4.heap.size, 0, none⟩ = some (.int .i64 2) := by rw [cell_at hy5]; rfl
  have hl5 := lt_at hy5
  have HB5 := Lib.hid ((HB.out _).trans (hb5.mono (HB.out _).size))
  clear hy5 hb5 h5
  simp only [List.length_singleton]
  go_wp2
  go_ret
  exact ⟨rfl, HB5.out⟩
end Go.Proofs.Ytfcdaelbbcfgjaa.Begun
