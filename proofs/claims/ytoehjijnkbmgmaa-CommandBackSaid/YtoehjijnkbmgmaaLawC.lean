/- The walk of the statement that what is encoded is decoded as it was. -/
import Derived.Test.YtoehjijnkbmgmaaLaw
import Derived.Deep.Cut
set_option linter.unusedVariables false
set_option linter.unusedSimpArgs false
namespace Go.Proofs.Ytoehjijnkbmgmaa.LawC
open Go.RowKit Go.Proofs.Ytoehjijnkbmgmaa.Kit Go.Proofs.Ytoehjijnkbmgmaa.Rdr Go.Proofs.Ytoehjijnkbmgmaa.Stq Go.Proofs.Ytoehjijnkbmgmaa.Pln Go.Proofs.Ytoehjijnkbmgmaa.Cmd Go.Proofs.Ytoehjijnkbmgmaa.CmdAt Go.Proofs.Ytoehjijnkbmgmaa.WalkA Go.Proofs.Ytoehjijnkbmgmaa.WalkB Go.Proofs.Ytoehjijnkbmgmaa.WalkC Go.Proofs.Ytoehjijnkbmgmaa.Dx Go.Proofs.Ytoehjijnkbmgmaa.Same Go.Proofs.Ytoehjijnkbmgmaa.Begun Go.Proofs.Ytoehjijnkbmgmaa.Law
open Go.Proofs.Ytoehjijnkbmgmaa.PckWalkH (str str_size)

set_option maxRecDepth 100000 in
set_option maxHeartbeats 8000000 in
/-- A command that may not be. -/
theorem back_no (A : Option Addr) (n c : Nat) (m : Cm) (w : World) (h : CAt w A n m) (hm : mayB m = false) : Calls Try.prog 5 #[cmV A n c m] w fun e w' => e = .returned (.bool true) ∧ Below w.heap.size w w' := by
  obtain ⟨w1, HW, hx, h1, hb⟩ := cm_box c h
  have hways : (encZ m = 44 ∧ m.k = 2) ∨ encZ m = 1 := (encZ_not hm).elim (fun h => .inl ⟨h.1, h.2.1⟩) (fun h => .inr h.1)
  have HE := Lib.hid (fun w' (hb : Below w1.heap.size w1 w') => enc_not c (h1.below hb) hm rfl)
  obtain ⟨z, hz⟩ : ∃ z, encZ m = z := ⟨_, rfl⟩
  rw [hz] at HE hways
  clear h h1 hz hm
  obtain ⟨k, ss, sq, sg, l, st, bk, tr, ok, nw⟩ := m
  unfold cmV at HE ⊢
  simp only at HE HW hx hways ⊢
  have HB := Lib.hid hb
  obtain ⟨G, hG⟩ : ∃ G, w.heap.size = G := ⟨_, rfl⟩
  rw [hG] at hx
  have HX := Lib.hid hx
  have hem : ((⟨#[]⟩ : ByteArray).toList == []) = true := by rw [Lib.toList_data]; decide
  clear hb hx
  rcases hways with ⟨rfl, rfl⟩ | rfl
  all_goals
    go_enter Try.func5, Try.ntmps5
    go_wp2_with fail
    rw [HW.out]
    with_reducible refine (begun_true w1).mono ?_
    rintro e w2 ⟨rfl, hb2⟩
    obtain ⟨x0, x1, x2, x3, x4, x5, x6, x7, x8, x9⟩ := (HX.out.below hb2).all
    go_wp2_with fail
    with_reducible refine (HE.out w2 hb2).mono ?_
    rintro e w3 ⟨rfl, hb3⟩
    have hB3 := hb2.trans (hb3.mono hb2.size)
    clear hb2 hb3 x0 x1 x2 x3 x4 x5 x6 x7 x8 x9
    obtain ⟨x0, x1, x2, x3, x4, x5, x6, x7, x8, x9⟩ := (HX.out.below hB3).all
    have HB3 := Lib.hid (HB.out.trans (hB3.mono HB.out.size))
    clear hB3
    go_wp2
    go_ret
    exact ⟨rfl, HB3.out⟩

set_option maxRecDepth 100000 in
set_option maxHeartbeats 8000000 in
/-- A command that may be. -/
theorem back_yes (A : Option Addr) (n c : Nat) (m : Cm) (w : World) (h : CAt w A n m) (hm : mayB m = true) : Calls Try.prog 5 #[cmV A n c m] w fun e w' => e = .returned (.bool true) ∧ Below w.heap.size w w' := by
  obtain ⟨w1, HW, hx, h1, hb⟩ := cm_box c h
  have hsz := may_size h.fin hm
  obtain ⟨hy, hd⟩ := yes_go h.fin hm
  have hz := (dec_yes hy).2
  obtain ⟨S, hS⟩ : ∃ S, str (cmB m) = S := ⟨_, rfl⟩
  rw [hS] at hsz hd hz
  have HE := Lib.hid (fun w' (hb : Below w1.heap.size w1 w') => enc_may c (h1.below hb) hm hS)
  have HD := Lib.hid (dec_lit hsz hd hz)
  have HSAME := Lib.hid (fun w' A n A' n' c c' (h : CAt w' A n m) (h' : CAt w' A' n' m) => same_any c c' h h' true (by simp))
  have HA1 := Lib.hid h1
  clear h h1 hz hm hy hd hsz hS
  obtain ⟨k, ss, sq, sg, l, st, bk, tr, ok, nw⟩ := m
  unfold cmV at HE HSAME ⊢
  simp only at HE HSAME HW hx ⊢
  have HB := Lib.hid hb
  obtain ⟨G, hG⟩ : ∃ G, w.heap.size = G := ⟨_, rfl⟩
  rw [hG] at hx
  have HX := Lib.hid hx
  clear hb hx
  go_enter Try.func5, Try.ntmps5
  go_wp2_with fail
  rw [HW.out]
  with_reducible refine (begun_true w1).mono ?_
  rintro e w2 ⟨rfl, hb2⟩
  obtain ⟨x0, x1, x2, x3, x4, x5, x6, x7, x8, x9⟩ := (HX.out.below hb2).all
  go_wp2_with fail
  with_reducible refine (HE.out w2 hb2).mono ?_
  rintro e w3 ⟨rfl, hb3⟩
  have hB3 := hb2.trans (hb3.mono hb2.size)
  clear hb2 hb3 x0 x1 x2 x3 x4 x5 x6 x7 x8 x9 hG
  go_wp2_with fail
  with_reducible refine (HD.out w3).mono ?_
  rintro e w4 ⟨A', n', c', rfl, hA', hb4⟩
  obtain ⟨w5, HW5, hy, hA5, hb5⟩ := cm_box c' hA'
  have hB5 := hB3.trans ((hb4.trans (hb5.mono hb4.size)).mono hB3.size)
  have hx5 := HX.out.below hB5
  have hAA := HA1.out.below hB5
  have HB5 := Lib.hid (HB.out.trans (hB5.mono HB.out.size))
  obtain ⟨G', hG'⟩ : ∃ G, w4.heap.size = G := ⟨_, rfl⟩
  rw [hG'] at hy
  simp only at HW5 hy
  obtain ⟨x0, x1, x2, x3, x4, x5, x6, x7, x8, x9⟩ := hx5.all
  obtain ⟨y0, y1, y2, y3, y4, y5, y6, y7, y8, y9⟩ := hy.all
  have HS := Lib.hid (HSAME.out _ _ _ _ _ c c' hAA hA5)
  clear hb4 hb5 hB3 hB5 hx5 hAA hA5 hy hA' HSAME
  unfold cmV
  simp only
  go_upto_region 7 with fail
  rw [HW5.out]
  go_wp2_with fail
  with_reducible refine HS.out.mono ?_
  rintro e w6 ⟨rfl, hb6⟩
  go_wp2
  go_ret
  exact ⟨rfl, HB5.out.trans (hb6.mono HB5.out.size)⟩
theorem back_walk (A : Option Addr) (n c : Nat) (m : Cm) (w : World) (h : CAt w A n m) : Calls Try.prog 5 #[cmV A n c m] w fun e w' => e = .returned (.bool true) ∧ Below w.heap.size w w' := by
  cases hm : mayB m
  · exact back_no A n c m w h hm
  · exact back_yes A n c m w h hm
end Go.Proofs.Ytoehjijnkbmgmaa.LawC
