/- What the document's Abort and Outcome answer, walked, once its Sound is known. No statement is proved here. -/
import Derived.Test.YthaepkpmpnofgaaGreatHNewS
import Derived.BigRegion
set_option linter.unusedVariables false
set_option linter.unusedSimpArgs false
namespace Go.Proofs.YthaepkpmpnofgaaGreat.SgaWalkE
open Go.RowKit Go.Proofs.YthaepkpmpnofgaaGreat.Kit Go.Proofs.YthaepkpmpnofgaaGreat.Stq Go.Proofs.YthaepkpmpnofgaaGreat.Pln Go.Proofs.YthaepkpmpnofgaaGreat.Sag Go.Proofs.YthaepkpmpnofgaaGreat.SagAt Go.Proofs.YthaepkpmpnofgaaGreat.SgaWalkB Go.Proofs.YthaepkpmpnofgaaGreat.SgaWalkC Go.Proofs.YthaepkpmpnofgaaGreat.NewS
open Go.Proofs.YthaepkpmpnofgaaGreat.State (Only cell_at free_at lt_at)

/-- What the document's Sound answers. -/
def RSnd : Prop := ∀ (w : World) (A : Option Addr) (c : Nat) (s : Sg), At w A s.l → ∀ b, sound s = b → Calls Tryz.prog 74 #[.agg #[.slice A s.l.length c, .int .i64 s.st, .int .i64 s.cu, .int .i64 s.fa]] w fun e w' => e = .returned (.bool b) ∧ Below w.heap.size w w'
set_option maxRecDepth 100000 in
set_option maxHeartbeats 8000000 in
theorem rabort_any (HR : RSnd) {w : World} {A : Option Addr} (cc : Nat) {l : List Sp} {st cu fa st' cu' fa' : Int} (h : At w A l) {b : Bool} (hs : Hid (abort ⟨l, st, cu, fa⟩ = ⟨l, st', cu', fa'⟩)) (hb : Hid (aborts ⟨l, st, cu, fa⟩ = b)) :
    Calls Tryz.prog 36 #[.agg #[.slice A l.length cc, .int .i64 st, .int .i64 cu, .int .i64 fa]] w fun e w' => e = .returned (.tuple #[.agg #[.slice A l.length cc, .int .i64 st', .int .i64 cu', .int .i64 fa'], .bool b]) ∧ Below w.heap.size w w' := by
  obtain ⟨u, hu⟩ : ∃ u, sound ⟨l, st, cu, fa⟩ = u := ⟨_, rfl⟩
  have hcase : (u = false ∧ b = false ∧ (⟨l, st', cu', fa'⟩ : Sg) = ⟨l, st, cu, fa⟩) ∨ (u = true ∧ (st != 1) = true ∧ b = false ∧ (⟨l, st', cu', fa'⟩ : Sg) = ⟨l, st, cu, fa⟩) ∨ (u = true ∧ (st != 1) = false ∧ b = true ∧ (⟨l, st', cu', fa'⟩ : Sg) = back ⟨l, st, cu, fa⟩ cu) := by
    have h1 := hs.out
    have h2 := hb.out
    unfold abort at h1
    rw [h2] at h1
    unfold aborts at h2
    rw [hu] at h2
    by_cases hst : st = 1
    · cases u <;> simp [hst] at h2 <;> subst h2 <;> simp_all
    · cases u <;> simp [hst] at h2 <;> subst h2 <;> simp_all
  have hsd := fun w A c h => HR w A c ⟨l, st, cu, fa⟩ h u hu
  have hbk := fun A c w => rback_any A c ⟨l, st, cu, fa⟩ cu w
  simp only at hsd hbk
  unfold sgV at hbk
  simp only at hbk
  obtain ⟨hx, hy, hbo⟩ := two_new w (.slice A l.length cc) (.int .i64 st) (.int .i64 cu) (.int .i64 fa) (.slice none 0 0) (.int .i64 0) (.int .i64 0) (.int .i64 0)
  obtain ⟨w0, hw0⟩ : ∃ w0, (w.alloc (.cells #[.slice A l.length cc, .int .i64 st, .int .i64 cu, .int .i64 fa] 49)).alloc (.cells #[.slice none 0 0, .int .i64 0, .int .i64 0, .int .i64 0] 49) = w0 := ⟨_, rfl⟩
  rw [hw0] at hx hy hbo
  have h0 := h.below hbo
  have HW0 := Lib.hid hw0
  have HSD := Lib.hid hsd
  have HBK := Lib.hid hbk
  have HBO := Lib.hid hbo
  have HX := Lib.hid hx
  have HY := Lib.hid hy
  have HAT := Lib.hid h0
  have HCASE := Lib.hid hcase
  clear hw0 hs hb hu hsd hbk h h0 hx hy hbo hcase
  go_enter Tryz.func36, Tryz.ntmps36
  go_wp2_with fail
  rw [HW0.out]
  with_reducible refine (HSD.out _ _ _ HAT.out).mono ?_
  rintro e w3 ⟨rfl, hb3⟩
  have hx3 := HX.out.below hb3
  have hy3 := HY.out.below hb3
  have c0 := hx3.c0
  have c1 := hx3.c1
  have c2 := hx3.c2
  have c3 := hx3.c3
  have ltx := hx3.lt
  have d0 := hy3.c0
  have d1 := hy3.c1
  have d2 := hy3.c2
  have d3 := hy3.c3
  have g0 := hy3.free 0
  have g1 := hy3.free 1
  have g2 := hy3.free 2
  have g3 := hy3.free 3
  have lty := hy3.lt
  have HB3 : Hid (Below w.heap.size w w3) := HBO.out.trans (hb3.mono HBO.out.size)
  have HX3 := Lib.hid hx3
  have HY3 := Lib.hid hy3
  clear hx3 hy3 hb3
  rcases HCASE.out with ⟨rfl, rfl, he⟩ | ⟨rfl, hne, rfl, he⟩ | ⟨rfl, hne, rfl, he⟩
  · obtain ⟨rfl, rfl, rfl⟩ : st = st' ∧ cu = cu' ∧ fa = fa' := by
      simp only [Sg.mk.injEq, true_and] at he
      exact ⟨he.1.symm, he.2.1.symm, he.2.2.symm⟩
    clear he HCASE
    go_wp2
    obtain ⟨w4, hw4, hy4, hx4, ho4⟩ := set_back HX3.out HY3.out (.slice A l.length cc) (.int .i64 st) (.int .i64 cu) (.int .i64 fa)
    rw [hw4]
    refine bodyPost_ret (res2 (p := 2) (u := 3) rfl _ rfl hy4) rfl ?_
    exact ⟨rfl, only_below HB3.out ho4 (fun q hq => by omega) HB3.out.size⟩
  · obtain ⟨rfl, rfl, rfl⟩ : st = st' ∧ cu = cu' ∧ fa = fa' := by
      simp only [Sg.mk.injEq, true_and] at he
      exact ⟨he.1.symm, he.2.1.symm, he.2.2.symm⟩
    clear he HCASE
    go_wp2
    obtain ⟨w4, hw4, hy4, hx4, ho4⟩ := set_back HX3.out HY3.out (.slice A l.length cc) (.int .i64 st) (.int .i64 cu) (.int .i64 fa)
    rw [hw4]
    refine bodyPost_ret (res2 (p := 2) (u := 3) rfl _ rfl hy4) rfl ?_
    exact ⟨rfl, only_below HB3.out ho4 (fun q hq => by omega) HB3.out.size⟩
  · rw [← he] at HBK
    simp only at HBK
    clear he HCASE
    go_wp2_with fail
    with_reducible refine (HBK.out _ _ _).mono ?_
    rintro e w4 ⟨rfl, hb4⟩
    have hx4 := HX3.out.below hb4
    have hy4 := HY3.out.below hb4
    clear c0 c1 c2 c3 ltx d0 d1 d2 d3 g0 g1 g2 g3 lty
    have c0 := hx4.c0
    have c1 := hx4.c1
    have c2 := hx4.c2
    have c3 := hx4.c3
    have ltx := hx4.lt
    have d0 := hy4.c0
    have d1 := hy4.c1
    have d2 := hy4.c2
    have d3 := hy4.c3
    have g0 := hy4.free 0
    have g1 := hy4.free 1
    have g2 := hy4.free 2
    have g3 := hy4.free 3
    have lty := hy4.lt
    have hB4 : Below w.heap.size w w4 := HB3.out.trans (hb4.mono HB3.out.size)
    obtain ⟨w5, hw5, hy5, hx5, ho5⟩ := set_back hx4 hy4 (.slice A l.length cc) (.int .i64 st') (.int .i64 cu') (.int .i64 fa')
    have HY5 := Lib.hid hy5
    have HW5 := Lib.hid hw5
    have HB5 : Hid (Below w.heap.size w w5) := only_below hB4 ho5 (fun q hq => by omega) hB4.size
    clear hx4 hy4 hb4 hB4 hy5 hw5 hx5 ho5
    go_wp2
    rw [HW5.out]
    refine bodyPost_ret (res2 (p := 2) (u := 3) rfl _ rfl HY5.out) rfl ?_
    exact ⟨rfl, HB5.out⟩
end Go.Proofs.YthaepkpmpnofgaaGreat.SgaWalkE
