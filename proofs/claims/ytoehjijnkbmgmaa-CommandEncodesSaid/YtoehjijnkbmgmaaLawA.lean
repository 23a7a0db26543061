/- The walk of the statement that commands are encoded as the document has it. -/
import Derived.Test.YtoehjijnkbmgmaaLaw
import Derived.Deep.RegionHeld3
set_option linter.unusedVariables false
set_option linter.unusedSimpArgs false
namespace Go.Proofs.Ytoehjijnkbmgmaa.LawA
open Go.RowKit Go.Proofs.Ytoehjijnkbmgmaa.Kit Go.Proofs.Ytoehjijnkbmgmaa.Rdr Go.Proofs.Ytoehjijnkbmgmaa.Stq Go.Proofs.Ytoehjijnkbmgmaa.Pln Go.Proofs.Ytoehjijnkbmgmaa.Cmd Go.Proofs.Ytoehjijnkbmgmaa.CmdAt Go.Proofs.Ytoehjijnkbmgmaa.WalkA Go.Proofs.Ytoehjijnkbmgmaa.WalkB Go.Proofs.Ytoehjijnkbmgmaa.WalkC Go.Proofs.Ytoehjijnkbmgmaa.Begun

set_option maxRecDepth 100000 in
set_option maxHeartbeats 8000000 in
theorem encodes_walk (A : Option Addr) (n c : Nat) (m : Cm) (w : World) (h : CAt w A n m) : Calls Try.prog 3 #[cmV A n c m] w fun e w' => e = .returned (.bool true) ∧ Below w.heap.size w w' := by
  obtain ⟨w1, HW, hx, h1, hb⟩ := cm_box c h
  obtain ⟨S, hS⟩ : ∃ S, encS m = S := ⟨_, rfl⟩
  obtain ⟨z, hz⟩ : ∃ z, encZ m = z := ⟨_, rfl⟩
  obtain ⟨b, hb'⟩ : ∃ b, mayB m = b := ⟨_, rfl⟩
  have HE := Lib.hid (fun w' (hb : Below w1.heap.size w1 w') => enc_any c (h1.below hb))
  have HF := Lib.hid (fun w' (hb : Below w1.heap.size w1 w') => renc_any c (h1.below hb))
  have HM := Lib.hid (fun w' (hb : Below w1.heap.size w1 w') => may_any c (h1.below hb))
  have HR := Lib.hid (fun w' (hb : Below w1.heap.size w1 w') => rmay_any c (h1.below hb))
  rw [hS, hz] at HE HF
  rw [hb'] at HM HR
  clear h hS hz hb' h1
  obtain ⟨k, ss, sq, sg, l, st, bk, tr, ok, nw⟩ := m
  unfold cmV at HE HF HM HR ⊢
  simp only at HE HF HM HR HW hx ⊢
  have hss : (S.toList == S.toList) = true := by simp
  have hzz : (z == z) = true := by simp
  have hbb : (b == b) = true := by simp
  have HB := Lib.hid hb
  obtain ⟨G, hG⟩ : ∃ G, w.heap.size = G := ⟨_, rfl⟩
  rw [hG] at hx
  have HX := Lib.hid hx
  clear hb hx
  go_enter Try.func3, Try.ntmps3
  go_wp2_with fail
  rw [HW.out]
  with_reducible refine (begun_true w1).mono ?_
  rintro e w2 ⟨rfl, hb2⟩
  obtain ⟨x0, x1, x2, x3, x4, x5, x6, x7, x8, x9⟩ := (HX.out.below hb2).all
  clear hG
  go_wp2_with fail
  with_reducible refine (HE.out w2 hb2).mono ?_
  rintro e w3 ⟨rfl, hb3⟩
  have hB3 := hb2.trans (hb3.mono hb2.size)
  clear hb2 hb3 x0 x1 x2 x3 x4 x5 x6 x7 x8 x9
  obtain ⟨x0, x1, x2, x3, x4, x5, x6, x7, x8, x9⟩ := (HX.out.below hB3).all
  go_wp2_with fail
  with_reducible refine (HF.out w3 hB3).mono ?_
  rintro e w4 ⟨rfl, hb4⟩
  have hB4 := hB3.trans (hb4.mono hB3.size)
  clear hB3 hb4 x0 x1 x2 x3 x4 x5 x6 x7 x8 x9
  have HXX : Hid (∀ W, Below w4.heap.size w4 W → W.cell? ⟨G, 0, none⟩ = some (.int .i64 k) ∧ W.cell? ⟨G, 1, none⟩ = some (.int .u64 (ss : Int)) ∧ W.cell? ⟨G, 2, none⟩ = some (.int .u64 (sq : Int)) ∧ W.cell? ⟨G, 3, none⟩ = some (.int .u64 (sg : Int)) ∧ W.cell? ⟨G, 4, none⟩ = some (.slice A n c) ∧ W.cell? ⟨G, 5, none⟩ = some (.int .i64 st) ∧ W.cell? ⟨G, 6, none⟩ = some (.bool bk) ∧ W.cell? ⟨G, 7, none⟩ = some (.int .i64 tr) ∧ W.cell? ⟨G, 8, none⟩ = some (.bool ok) ∧ W.cell? ⟨G, 9, none⟩ = some (.int .u64 (nw : Int))) := fun W k => ((HX.out.below hB4).below k).all
  have HD := Lib.hid ((Below.refl w4.heap.size w4).drew)
  have HB4 := Lib.hid hB4
  clear hB4
  go_wp2_with fail
  go_region_held3 (fun W => W.cell? ⟨G, 0, none⟩ = some (.int .i64 k) ∧ W.cell? ⟨G, 1, none⟩ = some (.int .u64 (ss : Int)) ∧ W.cell? ⟨G, 2, none⟩ = some (.int .u64 (sq : Int)) ∧ W.cell? ⟨G, 3, none⟩ = some (.int .u64 (sg : Int)) ∧ W.cell? ⟨G, 4, none⟩ = some (.slice A n c) ∧ W.cell? ⟨G, 5, none⟩ = some (.int .i64 st) ∧ W.cell? ⟨G, 6, none⟩ = some (.bool bk) ∧ W.cell? ⟨G, 7, none⟩ = some (.int .i64 tr) ∧ W.cell? ⟨G, 8, none⟩ = some (.bool ok) ∧ W.cell? ⟨G, 9, none⟩ = some (.int .u64 (nw : Int)))
    (first
      | exact HXX.out _ HD.out
      | exact HXX.out _ hA
      | exact HXX.out _ hC)
    (first
      | (go_at_call 12
         (with_reducible refine (HM.out _ (HB4.out.trans (HD.out.mono HB4.out.size))).mono ?_)
         rintro e wA ⟨rfl, hx⟩
         have hA := HD.out.trans hx)
      | (go_at_call 13
         (with_reducible refine (HR.out _ (HB4.out.trans (hA.mono HB4.out.size))).mono ?_)
         rintro e wB ⟨rfl, hx⟩
         have hC := hA.trans (hx.mono hA.size)))
  all_goals
    have HC := Lib.hid ((HB.out.trans (HB4.out.mono HB.out.size)).trans (hC.mono (HB.out.trans (HB4.out.mono HB.out.size)).size))
    clear hC hA
    go_wp2
    go_ret
    exact ⟨rfl, HC.out⟩
end Go.Proofs.Ytoehjijnkbmgmaa.LawA
