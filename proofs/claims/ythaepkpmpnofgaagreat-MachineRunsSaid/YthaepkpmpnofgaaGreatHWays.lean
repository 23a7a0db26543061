/- The ways of a saga; whether it has ended, walked. No statement is proved here. -/
import Derived.Test.YthaepkpmpnofgaaGreatHSagAt
import Derived.Test.YthaepkpmpnofgaaGreatGQ1
import Derived.BigQuiet
import Derived.BigRegion
import Derived.Deep.QuietTactic
set_option linter.unusedVariables false
set_option linter.unusedSimpArgs false
namespace Go.Proofs.YthaepkpmpnofgaaGreat.Ways
open Go.RowKit Go.Proofs.YthaepkpmpnofgaaGreat.Kit Go.Proofs.YthaepkpmpnofgaaGreat.Stq Go.Proofs.YthaepkpmpnofgaaGreat.Pln Go.Proofs.YthaepkpmpnofgaaGreat.Sag Go.Proofs.YthaepkpmpnofgaaGreat.SagAt
open Go.Proofs.YthaepkpmpnofgaaGreat.PlnWalkA (check_any)
open Go.Proofs.YthaepkpmpnofgaaGreat.PlnWalkB (rcheck_any)
open Go.Proofs.YthaepkpmpnofgaaGreat.State (cell_at free_at lt_at)

set_option maxRecDepth 100000 in
theorem ended_any (A : Option Addr) (c : Nat) (s : Sg) (w : World) {b : Bool} (hb : Hid (ended s = b)) :
    Calls Tryz.prog 123 #[sgV A c s] w fun e w' => e = .returned (.bool b) ∧ Below w.heap.size w w' := by
  have hbo : ∀ o, Below w.heap.size w (w.alloc o) := fun o => (Below.refl _ _).alloc (Nat.le_refl _) o
  obtain ⟨l, st, cu, fa⟩ := s
  have hd : (3 ≤ st ∧ st ≤ 5 ∧ b = true) ∨ (¬ 3 ≤ st ∧ b = false) ∨ (3 ≤ st ∧ ¬ st ≤ 5 ∧ b = false) := by
    have h := hb.out
    cases b
    · have := of_decide_eq_false h
      simp only at this
      simp only [eq_self, and_true, true_and, Bool.false_eq_true, and_false, or_false, false_or]
      omega
    · have := of_decide_eq_true h
      simp only at this
      simp only [eq_self, and_true, true_and, Bool.true_eq_false, and_false, or_false, false_or]
      omega
  unfold sgV
  simp only
  clear hb
  rcases hd with ⟨h1, h2, rfl⟩ | ⟨h1, rfl⟩ | ⟨h1, h2, rfl⟩
  all_goals
    go_enter Tryz.func123, Tryz.ntmps123
    go_wp2
    go_ret
    exact ⟨rfl, hbo _⟩

/-- The ways of a saga's state, cursor and failures. -/
theorem sgWays (s : Sg) (h : chk s.l = 0) (b : Bool) (hb : sound s = b) :
    (((0 ≤ s.cu ∧ s.cu < s.l.length) ∧
      ((s.st = 1 ∧ ((s.fa = 0 ∧ b = true) ∨ ((s.fa == 0) = false ∧ b = false))) ∨
       (s.st = 2 ∧ ((0 ≤ s.fa ∧ s.fa < bud s.l s.cu ∧ b = true) ∨ (¬ 0 ≤ s.fa ∧ b = false) ∨ (0 ≤ s.fa ∧ ¬ s.fa < bud s.l s.cu ∧ b = false))) ∨
       (s.st = 3 ∧ (s.cu == (s.l.length : Int)) = false ∧ b = false) ∨
       (s.st = 4 ∧ ((s.cu = 0 ∧ s.fa = 0 ∧ b = true) ∨ (s.cu = 0 ∧ (s.fa == 0) = false ∧ b = false) ∨ ((s.cu == 0) = false ∧ b = false))) ∨
       (s.st = 5 ∧ (((s.fa == bud s.l s.cu) = true ∧ b = true) ∨ ((s.fa == bud s.l s.cu) = false ∧ b = false))))) ∨
     ((¬ 0 ≤ s.cu ∨ (0 ≤ s.cu ∧ ¬ s.cu < s.l.length)) ∧ b = false ∧ (s.st = 1 ∨ s.st = 2 ∨ s.st = 5)) ∨
     (¬ 0 ≤ s.cu ∧ (s.cu == (s.l.length : Int)) = false ∧ b = false ∧ s.st = 3) ∨
     ((0 ≤ s.cu ∧ ¬ s.cu < s.l.length) ∧ s.st = 3 ∧ (((s.cu == (s.l.length : Int)) = true ∧ s.fa = 0 ∧ b = true) ∨ ((s.cu == (s.l.length : Int)) = true ∧ (s.fa == 0) = false ∧ b = false) ∨ ((s.cu == (s.l.length : Int)) = false ∧ b = false))) ∨
     ((¬ 0 ≤ s.cu ∨ (0 ≤ s.cu ∧ ¬ s.cu < s.l.length)) ∧ (s.cu == 0) = false ∧ b = false ∧ s.st = 4) ∨
     ((¬ 0 ≤ s.cu ∨ (0 ≤ s.cu ∧ ¬ s.cu < s.l.length) ∨ (0 ≤ s.cu ∧ s.cu < s.l.length)) ∧ b = false ∧ (s.st == 1) = false ∧ (s.st == 2) = false ∧ (s.st == 3) = false ∧ (s.st == 4) = false ∧ (s.st == 5) = false)) := by
  have hl := len_def h
  simp only [beq_eq_false_iff_ne, ne_eq, beq_iff_eq]
  cases b
  · have hn : ¬ Snd s := of_decide_eq_false hb
    unfold Snd at hn
    simp only [h, true_and] at hn
    simp only [eq_self, and_true, true_and, false_and, Bool.false_eq_true, and_false, or_false, false_or]
    omega
  · have hn : Snd s := of_decide_eq_true hb
    unfold Snd at hn
    simp only [h, true_and] at hn
    simp only [eq_self, and_true, true_and, Bool.true_eq_false, and_false, or_false, false_or, false_and]
    omega

end Go.Proofs.YthaepkpmpnofgaaGreat.Ways
