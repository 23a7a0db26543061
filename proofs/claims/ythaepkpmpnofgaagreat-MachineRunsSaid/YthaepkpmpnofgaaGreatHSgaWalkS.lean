/- Whether a saga can be, the document's word. No statement is proved here. -/
import Derived.Test.YthaepkpmpnofgaaGreatHWalkRi
import Derived.Test.YthaepkpmpnofgaaGreatHWalkRlo
import Derived.Test.YthaepkpmpnofgaaGreatHWalkRhi
import Derived.Test.YthaepkpmpnofgaaGreatHSgaWalkF
set_option linter.unusedVariables false
set_option linter.unusedSimpArgs false
namespace Go.Proofs.YthaepkpmpnofgaaGreat.SgaWalkS
open Go.RowKit Go.Proofs.YthaepkpmpnofgaaGreat.Kit Go.Proofs.YthaepkpmpnofgaaGreat.Stq Go.Proofs.YthaepkpmpnofgaaGreat.Pln Go.Proofs.YthaepkpmpnofgaaGreat.Sag Go.Proofs.YthaepkpmpnofgaaGreat.SagAt Go.Proofs.YthaepkpmpnofgaaGreat.Ways Go.Proofs.YthaepkpmpnofgaaGreat.SgaWalkE Go.Proofs.YthaepkpmpnofgaaGreat.WalkRi Go.Proofs.YthaepkpmpnofgaaGreat.WalkRlo Go.Proofs.YthaepkpmpnofgaaGreat.WalkRhi
open Go.Proofs.YthaepkpmpnofgaaGreat.PlnWalkB (rcheck_any)

set_option maxRecDepth 100000 in
theorem rsound_no {w : World} {A : Option Addr} {c : Nat} {s : Sg} (h : At w A s.l) (hz : chk s.l = 44) :
    Calls Tryz.prog 74 #[sgV A c s] w fun e w' => e = .returned (.bool false) ∧ Below w.heap.size w w' := by
  obtain ⟨l, st, cu, fa⟩ := s
  simp only at h hz
  have hbo : Below w.heap.size w (w.alloc (.cells #[.slice A l.length c, .int .i64 st, .int .i64 cu, .int .i64 fa] 49)) := (Below.refl _ _).alloc (Nat.le_refl _) _
  have h0 := h.below hbo
  obtain ⟨w1, hw1⟩ : ∃ w1, w.alloc (.cells #[.slice A l.length c, .int .i64 st, .int .i64 cu, .int .i64 fa] 49) = w1 := ⟨_, rfl⟩
  rw [hw1] at hbo h0
  have HW1 := Lib.hid hw1
  have HZ := Lib.hid hz
  unfold sgV
  simp only
  clear hw1 h hz
  go_enter Tryz.func74, Tryz.ntmps74
  go_wp2_with fail
  rw [HW1.out]
  go_wp2_with fail
  with_reducible refine (rcheck_any h0.rs h0.few h0.nm HZ).mono ?_
  rintro e w2 ⟨rfl, hb2⟩
  go_wp2
  go_ret
  exact ⟨rfl, hbo.trans (hb2.mono hbo.size)⟩
theorem rsnd : RSnd := by
  intro w A c s h b hb
  rcases chk_or s.l with hz | hz
  · by_cases h0 : 0 ≤ s.cu
    · by_cases h1 : s.cu < s.l.length
      · exact rsound_in h hz ⟨h0, h1⟩ hb
      · exact rsound_hi h hz ⟨h0, h1⟩ hb
    · exact rsound_lo h hz h0 hb
  · have hf : b = false := hb.symm.trans (sound_not fun k => by rw [k.1] at hz; cases hz)
    subst hf
    exact rsound_no h hz
end Go.Proofs.YthaepkpmpnofgaaGreat.SgaWalkS
