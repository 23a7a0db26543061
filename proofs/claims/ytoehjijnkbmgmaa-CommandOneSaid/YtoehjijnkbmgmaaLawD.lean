/- The walk of the statement that bytes say one command at most. -/
import Derived.Test.YtoehjijnkbmgmaaLaw
import Derived.Deep.Cut
set_option linter.unusedVariables false
set_option linter.unusedSimpArgs false
namespace Go.Proofs.Ytoehjijnkbmgmaa.LawD
open Go.RowKit Go.Proofs.Ytoehjijnkbmgmaa.Kit Go.Proofs.Ytoehjijnkbmgmaa.Rdr Go.Proofs.Ytoehjijnkbmgmaa.Stq Go.Proofs.Ytoehjijnkbmgmaa.Pln Go.Proofs.Ytoehjijnkbmgmaa.Cmd Go.Proofs.Ytoehjijnkbmgmaa.CmdAt Go.Proofs.Ytoehjijnkbmgmaa.WalkA Go.Proofs.Ytoehjijnkbmgmaa.WalkB Go.Proofs.Ytoehjijnkbmgmaa.WalkC Go.Proofs.Ytoehjijnkbmgmaa.Dx Go.Proofs.Ytoehjijnkbmgmaa.Same Go.Proofs.Ytoehjijnkbmgmaa.Begun Go.Proofs.Ytoehjijnkbmgmaa.Law
open Go.Proofs.Ytoehjijnkbmgmaa.PckWalkH (str str_size)

set_option maxRecDepth 100000 in
set_option maxHeartbeats 8000000 in
theorem one_no (s : ByteArray) (w : World) (hs : s.size ≤ 281474976710656) (hy : yes s = false) : Calls Try.prog 6 #[.string s] w fun e w' => e = .returned (.bool true) ∧ Below w.heap.size w w' := by
  obtain ⟨hm0, hz⟩ := dec_no hy
  obtain ⟨m, hm⟩ : ∃ m, dec s = m := ⟨_, rfl⟩
  have hmz : m = zeroC := by rw [← hm]; exact hm0
  have HD := Lib.hid (dec_lit hs hm hz)
  have HSAME := Lib.hid (fun w' A n c (h : CAt w' A n m) => same_any c 0 h (cat_zero w') true (by simp [hmz]))
  clear hm hz hs hy hm0 hmz
  go_enter Try.func6, Try.ntmps6
  go_wp2_with fail
  with_reducible refine (begun_true w).mono ?_
  rintro e w1 ⟨rfl, hb1⟩
  go_wp2_with fail
  with_reducible refine (HD.out w1).mono ?_
  rintro e w2 ⟨A, n, c, rfl, hA, hb2⟩
  obtain ⟨w3, HW3, hx, hA3, hb3⟩ := cm_box c hA
  have HB3 := Lib.hid (hb1.trans ((hb2.trans (hb3.mono hb2.size)).mono hb1.size))
  obtain ⟨G, hG⟩ : ∃ G, w2.heap.size = G := ⟨_, rfl⟩
  rw [hG] at hx
  have hsame := HSAME.out w3 A n c hA3
  clear hb1 hb2 hb3 hA hA3 HSAME
  obtain ⟨k, ss, sq, sg, l, st, bk, tr, ok, nw⟩ := m
  unfold cmV at hsame ⊢
  simp only at hsame HW3 hx ⊢
  obtain ⟨x0, x1, x2, x3, x4, x5, x6, x7, x8, x9⟩ := hx.all
  have HS : Hid (Calls Try.prog 16 #[.agg #[.int .i64 k, .int .u64 (ss : Int), .int .u64 (sq : Int), .int .u64 (sg : Int), .slice A n c, .int .i64 st, .bool bk, .int .i64 tr, .bool ok, .int .u64 (nw : Int)], .agg #[.int .i64 0, .int .u64 0, .int .u64 0, .int .u64 0, .slice none 0 0, .int .i64 0, .bool false, .int .i64 0, .bool false, .int .u64 0]] w3 (Say w3 true)) := hsame
  clear hsame hx
  go_upto_region 5 with fail
  rw [HW3.out]
  go_wp2_with fail
  with_reducible refine HS.out.mono ?_
  rintro e w6 ⟨rfl, hb6⟩
  go_wp2
  go_ret
  exact ⟨rfl, HB3.out.trans (hb6.mono HB3.out.size)⟩

set_option maxRecDepth 100000 in
set_option maxHeartbeats 8000000 in
theorem one_yes (s : ByteArray) (w : World) (hs : s.size ≤ 281474976710656) (hy : yes s = true) : Calls Try.prog 6 #[.string s] w fun e w' => e = .returned (.bool true) ∧ Below w.heap.size w w' := by
  obtain ⟨hmay, hbk, hfin⟩ := yes_back hy
  have hz := (dec_yes hy).2
  obtain ⟨m, hm⟩ : ∃ m, dec s = m := ⟨_, rfl⟩
  rw [hm] at hmay hbk hfin
  have HD := Lib.hid (dec_lit hs hm hz)
  have HE := Lib.hid (fun w' A n c (h : CAt w' A n m) => enc_may c h hmay hbk.symm)
  have HM := Lib.hid (fun w' A n c (h : CAt w' A n m) => may_any c h)
  rw [hmay] at HM
  have hss : (s.toList == s.toList) = true := by simp
  clear hm hz hs hy hmay hbk hfin
  go_enter Try.func6, Try.ntmps6
  go_wp2_with fail
  with_reducible refine (begun_true w).mono ?_
  rintro e w1 ⟨rfl, hb1⟩
  go_wp2_with fail
  with_reducible refine (HD.out w1).mono ?_
  rintro e w2 ⟨A, n, c, rfl, hA, hb2⟩
  obtain ⟨w3, HW3, hx, hA3, hb3⟩ := cm_box c hA
  have HB3 := Lib.hid (hb1.trans ((hb2.trans (hb3.mono hb2.size)).mono hb1.size))
  obtain ⟨G, hG⟩ : ∃ G, w2.heap.size = G := ⟨_, rfl⟩
  rw [hG] at hx
  have HA3 := Lib.hid hA3
  have HX := Lib.hid hx
  have henc := HE.out w3 A n c hA3
  clear hb1 hb2 hb3 hA HE
  obtain ⟨k, ss, sq, sg, l, st, bk, tr, ok, nw⟩ := m
  unfold cmV at henc HM ⊢
  simp only at henc HM HW3 hx HX ⊢
  obtain ⟨x0, x1, x2, x3, x4, x5, x6, x7, x8, x9⟩ := hx.all
  have HENC := Lib.hid henc
  clear henc hx hA3
  go_upto_region 6 with fail
  rw [HW3.out]
  go_wp2_with fail
  with_reducible refine HENC.out.mono ?_
  rintro e w4 ⟨rfl, hb4⟩
  clear x0 x1 x2 x3 x4 x5 x6 x7 x8 x9 hG
  obtain ⟨x0, x1, x2, x3, x4, x5, x6, x7, x8, x9⟩ := (HX.out.below hb4).all
  have HMAY := Lib.hid (HM.out w4 A n c (HA3.out.below hb4))
  have HB4 := Lib.hid (HB3.out.trans (hb4.mono HB3.out.size))
  clear hb4
  go_wp2_with fail
  with_reducible refine HMAY.out.mono ?_
  rintro e w5 ⟨rfl, hb5⟩
  go_wp2
  go_ret
  exact ⟨rfl, HB4.out.trans (hb5.mono HB4.out.size)⟩
theorem one_walk (s : ByteArray) (w : World) (hs : s.size ≤ 281474976710656) : Calls Try.prog 6 #[.string s] w fun e w' => e = .returned (.bool true) ∧ Below w.heap.size w w' := by
  cases hy : yes s
  · exact one_no s w hs hy
  · exact one_yes s w hs hy
end Go.Proofs.Ytoehjijnkbmgmaa.LawD
