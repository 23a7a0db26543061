/- The walk of the statement that any bytes are decoded as the document has it. -/
import Derived.Test.YtoehjijnkbmgmaaLaw
import Derived.Deep.Cut
set_option linter.unusedVariables false
set_option linter.unusedSimpArgs false
namespace Go.Proofs.Ytoehjijnkbmgmaa.LawB
open Go.RowKit Go.Proofs.Ytoehjijnkbmgmaa.Kit Go.Proofs.Ytoehjijnkbmgmaa.Rdr Go.Proofs.Ytoehjijnkbmgmaa.Stq Go.Proofs.Ytoehjijnkbmgmaa.Pln Go.Proofs.Ytoehjijnkbmgmaa.Cmd Go.Proofs.Ytoehjijnkbmgmaa.CmdAt Go.Proofs.Ytoehjijnkbmgmaa.WalkA Go.Proofs.Ytoehjijnkbmgmaa.WalkB Go.Proofs.Ytoehjijnkbmgmaa.WalkC Go.Proofs.Ytoehjijnkbmgmaa.Dx Go.Proofs.Ytoehjijnkbmgmaa.Same Go.Proofs.Ytoehjijnkbmgmaa.Begun Go.Proofs.Ytoehjijnkbmgmaa.Law
open Go.Proofs.Ytoehjijnkbmgmaa.PckWalkH (str str_size)

set_option maxRecDepth 100000 in
set_option maxHeartbeats 8000000 in
theorem decodes_walk (s : ByteArray) (w : World) (hs : s.size ≤ 281474976710656) : Calls Try.prog 4 #[.string s] w fun e w' => e = .returned (.bool true) ∧ Below w.heap.size w w' := by
  obtain ⟨m, hm⟩ : ∃ m, dec s = m := ⟨_, rfl⟩
  obtain ⟨z, hz⟩ : ∃ z, decZ s = z := ⟨_, rfl⟩
  have HD := Lib.hid (dec_lit hs hm hz)
  have HR := Lib.hid (rdec_lit hs hm hz)
  have hzz : (z == z) = true := by simp
  have HSAME := Lib.hid (fun w' A n A' n' c c' (h : CAt w' A n m) (h' : CAt w' A' n' m) => same_any c c' h h' true (by simp))
  clear hm hz hs
  go_enter Try.func4, Try.ntmps4
  go_wp2_with fail
  with_reducible refine (begun_true w).mono ?_
  rintro e w1 ⟨rfl, hb1⟩
  go_wp2_with fail
  with_reducible refine (HD.out w1).mono ?_
  rintro e w2 ⟨A, n, c, rfl, hA, hb2⟩
  obtain ⟨w3, HW3, hx, hA3, hb3⟩ := cm_box c hA
  have HB3 := Lib.hid (hb1.trans ((hb2.trans (hb3.mono hb2.size)).mono hb1.size))
  obtain ⟨G, hG⟩ : ∃ G, w2.heap.size = G := ⟨_, rfl⟩
  rw [hG] at hx
  have HX := Lib.hid hx
  have HA3 := Lib.hid hA3
  clear hb1 hb2 hb3 hx hA hA3
  obtain ⟨k, ss, sq, sg, l, st, bk, tr, ok, nw⟩ := m
  unfold cmV at HSAME ⊢
  simp only at HSAME HW3 HX ⊢
  go_wp2_with fail
  rw [HW3.out]
  with_reducible refine (HR.out w3).mono ?_
  rintro e w4 ⟨A', n', c', rfl, hA', hb4⟩
  obtain ⟨w5, HW5, hy, hA5, hb5⟩ := cm_box c' hA'
  have hb45 := hb4.trans (hb5.mono hb4.size)
  have HB5 := Lib.hid (HB3.out.trans (hb45.mono HB3.out.size))
  have hx5 := HX.out.below hb45
  have hAA := HA3.out.below hb45
  obtain ⟨G', hG'⟩ : ∃ G, w4.heap.size = G := ⟨_, rfl⟩
  rw [hG'] at hy
  simp only at HW5 hy
  obtain ⟨x0, x1, x2, x3, x4, x5, x6, x7, x8, x9⟩ := hx5.all
  obtain ⟨y0, y1, y2, y3, y4, y5, y6, y7, y8, y9⟩ := hy.all
  have HS := Lib.hid (HSAME.out _ _ _ _ _ c c' hAA hA5)
  clear hb4 hb5 hb45 hx5 hAA hA5 hy hA' HSAME
  unfold cmV
  simp only
  go_upto_region 5 with fail
  rw [HW5.out]
  go_wp2_with fail
  with_reducible refine HS.out.mono ?_
  rintro e w6 ⟨rfl, hb6⟩
  go_wp2
  go_ret
  exact ⟨rfl, HB5.out.trans (hb6.mono HB5.out.size)⟩
end Go.Proofs.Ytoehjijnkbmgmaa.LawB
