/- The walk of the statement that each outcome, and each abort, makes of a saga what the document says. -/
import Derived.Test.YtbppfndlfonoiaaLawA
import Derived.Test.YtbppfndlfonoiaaWalkF
import Derived.Test.YtbppfndlfonoiaaWalkS
import Derived.Test.YtbppfndlfonoiaaLawE0
import Derived.Test.YtbppfndlfonoiaaLawE1
import Derived.Test.YtbppfndlfonoiaaLawE2
import Derived.Test.YtbppfndlfonoiaaLawE3
import Derived.Test.YtbppfndlfonoiaaLawE4
import Derived.Test.YtbppfndlfonoiaaLawE5
import Derived.BigQuiet
import Derived.Deep.QuietTactic
set_option linter.unusedVariables false
set_option linter.unusedSimpArgs false
namespace Go.Proofs.Ytbppfndlfonoiaa.LawE
open Go.RowKit Go.Proofs.Ytbppfndlfonoiaa.Kit Go.Proofs.Ytbppfndlfonoiaa.Stq Go.Proofs.Ytbppfndlfonoiaa.Pln Go.Proofs.Ytbppfndlfonoiaa.Sag Go.Proofs.Ytbppfndlfonoiaa.SagAt Go.Proofs.Ytbppfndlfonoiaa.WalkB Go.Proofs.Ytbppfndlfonoiaa.WalkC Go.Proofs.Ytbppfndlfonoiaa.WalkE Go.Proofs.Ytbppfndlfonoiaa.WalkF Go.Proofs.Ytbppfndlfonoiaa.NewS Go.Proofs.Ytbppfndlfonoiaa.Begun Go.Proofs.Ytbppfndlfonoiaa.Opens Go.Proofs.Ytbppfndlfonoiaa.Opn Go.Proofs.Ytbppfndlfonoiaa.Lit Go.Proofs.Ytbppfndlfonoiaa.LawA
open Go.Proofs.Ytbppfndlfonoiaa.State (Only cell_at free_at lt_at)

set_option maxRecDepth 100000 in
set_option maxHeartbeats 32000000 in
theorem steps_any (HR : RSnd) (A : Option Addr) (c : Nat) (s : Sg) (x : Cl) (w : World) (h : CameS w A s.l.length c s.l) (hr : s.l.length * 32 ≤ 140737488355328) (hx : InC x) :
    Calls Try.prog 3 #[sgV A c s, .agg #[.int .i64 x.sp, .bool x.tk, .int .i64 x.tr, .bool x.ok]] w fun e w' => e = .returned (.bool true) ∧ Below w.heap.size w w' := by
  have hin := in_new c x (came_at h hr)
  obtain ⟨⟨ol, o1, o2, o3⟩, ho⟩ : ∃ t, outc s x.sp x.tk x.tr x.ok = t := ⟨_, rfl⟩
  obtain ⟨bt, hbt⟩ : ∃ b, takes s x.sp x.tk x.tr x.ok = b := ⟨_, rfl⟩
  obtain ⟨⟨al, a1, a2, a3⟩, ha⟩ : ∃ t, abort s = t := ⟨_, rfl⟩
  obtain ⟨ba, hba⟩ : ∃ b, aborts s = b := ⟨_, rfl⟩
  have hol : ol = s.l := by have := outc_l s x.sp x.tk x.tr x.ok; rw [ho] at this; exact this
  have hal : al = s.l := by have := abort_l s; rw [ha] at this; exact this
  subst hol hal
  obtain ⟨u, hu⟩ : ∃ u, sound s = u := ⟨_, rfl⟩
  obtain ⟨v, hv⟩ : ∃ v, ended s = v := ⟨_, rfl⟩
  obtain ⟨q, hq⟩ : ∃ q, wantC s = q := ⟨_, rfl⟩
  obtain ⟨y, hy⟩ : ∃ y, wantB s = y := ⟨_, rfl⟩
  obtain ⟨xo, hxo⟩ : ∃ x, opn s = x := ⟨_, rfl⟩
  have hcase : (u = false ∧ v = false ∧ q = 0 ∧ y = false ∧ xo = false ∧ s.st < 3) ∨ (u = false ∧ v = true ∧ q = 0 ∧ y = false ∧ xo = false ∧ 3 ≤ s.st ∧ s.st ≤ 5) ∨ (u = false ∧ v = false ∧ q = 0 ∧ y = false ∧ xo = false ∧ 3 ≤ s.st ∧ 5 < s.st) ∨
      (u = true ∧ v = false ∧ s.cu = q ∧ y = false ∧ xo = true ∧ s.st = 1) ∨ (u = true ∧ v = false ∧ s.cu = q ∧ y = true ∧ xo = true ∧ s.st = 2) ∨ (u = true ∧ v = true ∧ q = 0 ∧ y = false ∧ xo = false ∧ 3 ≤ s.st ∧ s.st ≤ 5) := by
    unfold wantC at hq
    unfold wantB at hy
    rw [hxo] at hq hy
    unfold opn at hxo
    rw [hu] at hxo
    unfold ended at hv
    cases u
    · simp only [Bool.false_and] at hxo
      subst hxo
      simp only [Bool.false_and, Bool.false_eq_true, if_false] at hq hy
      subst hq hy
      by_cases h3 : 3 ≤ s.st
      · by_cases h5 : s.st ≤ 5
        · refine .inr (.inl ⟨rfl, ?_, rfl, rfl, rfl, h3, h5⟩)
          rw [← hv]; simp [h3, h5]
        · refine .inr (.inr (.inl ⟨rfl, ?_, rfl, rfl, rfl, h3, by omega⟩))
          rw [← hv]; simp [h5]
      · refine .inl ⟨rfl, ?_, rfl, rfl, rfl, by omega⟩
        rw [← hv]; simp [h3]
    · have hsn := (sound_yes hu).2
      by_cases h2 : s.st ≤ 2
      · have hx1 : xo = true := by rw [← hxo]; simp [h2]
        subst hx1
        simp only [Bool.true_and, if_true] at hq hy
        have hvf : v = false := by rw [← hv]; simp; omega
        subst hvf
        have h12 : s.st = 1 ∨ s.st = 2 := by omega
        rcases h12 with e | e
        · exact .inr (.inr (.inr (.inl ⟨rfl, rfl, hq, by rw [← hy]; simp [e], rfl, e⟩)))
        · exact .inr (.inr (.inr (.inr (.inl ⟨rfl, rfl, hq, by rw [← hy]; simp [e], rfl, e⟩))))
      · have hx1 : xo = false := by rw [← hxo]; simp; omega
        subst hx1
        simp only [Bool.false_and, Bool.false_eq_true, if_false] at hq hy
        subst hq hy
        have h35 : 3 ≤ s.st ∧ s.st ≤ 5 := by omega
        refine .inr (.inr (.inr (.inr (.inr ⟨rfl, ?_, rfl, rfl, rfl, h35.1, h35.2⟩))))
        rw [← hv]; simp [h35]
  have HO := Lib.hid ho
  have HT := Lib.hid hbt
  have HAB := Lib.hid ha
  have HAQ := Lib.hid hba
  have HU := Lib.hid hu
  have HV := Lib.hid hv
  have HQ := Lib.hid hq
  have HY := Lib.hid hy
  have HX := Lib.hid hxo
  clear ho hbt ha hba hu hv hq hy hxo h hr hx
  obtain ⟨l, st, cu, fa⟩ := s
  obtain ⟨sp, tk, tr, ok⟩ := x
  simp only at hin hcase HO HT HAB HAQ ⊢
  unfold sgV
  simp only
  rcases hcase with ⟨rfl, rfl, rfl, rfl, rfl, g1⟩ | ⟨rfl, rfl, rfl, rfl, rfl, g1, g2⟩ | ⟨rfl, rfl, rfl, rfl, rfl, g1, g2⟩ | ⟨rfl, rfl, rfl, rfl, rfl, rfl⟩ | ⟨rfl, rfl, rfl, rfl, rfl, rfl⟩ | ⟨rfl, rfl, rfl, rfl, rfl, g1, g2⟩
  · exact LawE0.steps_case HR hin HO HT HAB HAQ HU HV HQ HY HX g1
  · exact LawE1.steps_case HR hin HO HT HAB HAQ HU HV HQ HY HX g1 g2
  · exact LawE2.steps_case HR hin HO HT HAB HAQ HU HV HQ HY HX g1 g2
  · exact LawE3.steps_case HR hin HO HT HAB HAQ HU HV HQ HY HX
  · exact LawE4.steps_case HR hin HO HT HAB HAQ HU HV HQ HY HX
  · exact LawE5.steps_case HR hin HO HT HAB HAQ HU HV HQ HY HX g1 g2
theorem steps_walk (A : Option Addr) (c : Nat) (s : Sg) (x : Cl) (w : World) (h : CameS w A s.l.length c s.l) (hr : s.l.length * 32 ≤ 140737488355328) (hx : InC x) :
    Calls Try.prog 3 #[sgV A c s, .agg #[.int .i64 x.sp, .bool x.tk, .int .i64 x.tr, .bool x.ok]] w fun e w' => e = .returned (.bool true) ∧ Below w.heap.size w w' := steps_any WalkS.rsnd A c s x w h hr hx
end Go.Proofs.Ytbppfndlfonoiaa.LawE
