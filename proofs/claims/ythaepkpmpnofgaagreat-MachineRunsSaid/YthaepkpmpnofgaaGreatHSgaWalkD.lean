/- Whether two sagas are the same, by the document, walked. No statement is proved here. -/
import Derived.Test.YthaepkpmpnofgaaGreatGG
import Derived.Test.YthaepkpmpnofgaaGreatGQ1
set_option linter.unusedVariables false
set_option linter.unusedSimpArgs false
namespace Go.Proofs.YthaepkpmpnofgaaGreat.SgaWalkD
open Go.RowKit Go.Proofs.YthaepkpmpnofgaaGreat.Kit Go.Proofs.YthaepkpmpnofgaaGreat.Stq Go.Proofs.YthaepkpmpnofgaaGreat.Pln Go.Proofs.YthaepkpmpnofgaaGreat.Sag Go.Proofs.YthaepkpmpnofgaaGreat.SagAt Go.Proofs.YthaepkpmpnofgaaGreat.SgaWalkB
open Go.Proofs.YthaepkpmpnofgaaGreat.PlnWalkB (sps_any)
open Go.Proofs.YthaepkpmpnofgaaGreat.State (Only cell_at free_at lt_at)

set_option maxRecDepth 100000 in
set_option maxHeartbeats 4000000 in
theorem rsame_any {w : World} {A C : Option Addr} (ca cc : Nat) {s s' : Sg} (ha : At w A s.l) (hc : At w C s'.l) (b : Bool) (hb : b = true ↔ s = s') :
    Calls Tryz.prog 20 #[sgV A ca s, sgV C cc s'] w fun e w' => e = .returned (.bool b) ∧ Below w.heap.size w w' := by
  obtain ⟨l, st, cu, fa⟩ := s
  obtain ⟨l', st', cu', fa'⟩ := s'
  simp only at ha hc
  simp only [Sg.mk.injEq] at hb
  obtain ⟨q, hq⟩ : ∃ q : Bool, q = true ↔ l = l' := by
    by_cases h : l = l'
    · exact ⟨true, by simp [h]⟩
    · exact ⟨false, by simp [h]⟩
  have hcase : ((st == st') = false ∧ b = false) ∨ ((st == st') = true ∧ (cu == cu') = false ∧ b = false) ∨ ((st == st') = true ∧ (cu == cu') = true ∧ (fa == fa') = false ∧ b = false) ∨ ((st == st') = true ∧ (cu == cu') = true ∧ (fa == fa') = true ∧ b = q) := by
    simp only [beq_eq_false_iff_ne, ne_eq, beq_iff_eq]
    by_cases h1 : st = st'
    · by_cases h2 : cu = cu'
      · by_cases h3 : fa = fa'
        · refine .inr (.inr (.inr ⟨h1, h2, h3, ?_⟩))
          rw [Bool.eq_iff_iff, hb, hq]
          simp [h1, h2, h3]
        · refine .inr (.inr (.inl ⟨h1, h2, h3, ?_⟩))
          cases b
          · rfl
          · exact absurd (hb.1 rfl).2.2.2 h3
      · refine .inr (.inl ⟨h1, h2, ?_⟩)
        cases b
        · rfl
        · exact absurd (hb.1 rfl).2.2.1 h2
    · refine .inl ⟨h1, ?_⟩
      cases b
      · rfl
      · exact absurd (hb.1 rfl).2.1 h1
  have hbo : ∀ o o', Below w.heap.size w ((w.alloc o).alloc o') := fun o o' => bo2 w o o'
  unfold sgV
  simp only
  clear hb
  rcases hcase with ⟨h1, rfl⟩ | ⟨h1, h2, rfl⟩ | ⟨h1, h2, h3, rfl⟩ | ⟨h1, h2, h3, rfl⟩
  · clear hq ha hc
    go_enter Tryz.func20, Tryz.ntmps20
    go_wp2
    go_ret
    exact ⟨rfl, hbo _ _⟩
  · clear hq ha hc
    go_enter Tryz.func20, Tryz.ntmps20
    go_wp2
    go_ret
    exact ⟨rfl, hbo _ _⟩
  · clear hq ha hc
    go_enter Tryz.func20, Tryz.ntmps20
    go_wp2
    go_ret
    exact ⟨rfl, hbo _ _⟩
  · have hS : Hid (∀ o o', Calls Tryz.prog 54 #[.slice A l.length ca, .slice C l'.length cc] ((w.alloc o).alloc o') fun e w' => e = .returned (.bool b) ∧ Below ((w.alloc o).alloc o').heap.size ((w.alloc o).alloc o') w') := fun o o' =>
      sps_any (ha.below (hbo o o')).rs (hc.below (hbo o o')).rs ha.few b hq
    clear hq ha hc
    go_enter Tryz.func20, Tryz.ntmps20
    go_wp2_with fail
    with_reducible refine (hS.out _ _).mono ?_
    rintro e w1 ⟨rfl, hb1⟩
    have hB := (hbo _ _).trans (hb1.mono (hbo _ _).size)
    go_wp2
    go_ret
    exact ⟨rfl, hB⟩
end Go.Proofs.YthaepkpmpnofgaaGreat.SgaWalkD
