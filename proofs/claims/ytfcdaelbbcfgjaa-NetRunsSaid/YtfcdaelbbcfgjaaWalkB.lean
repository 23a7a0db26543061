/- What place and Count leave, and each call on no net, walked. No statement is proved here. -/
import Derived.Test.YtfcdaelbbcfgjaaWalkA
import Derived.BigQuiet
import Derived.WalkSmall
set_option linter.unusedVariables false
namespace Go.Proofs.Ytfcdaelbbcfgjaa.WalkB
open Go.RowKit Go.Proofs.Ytfcdaelbbcfgjaa.Kit Go.Proofs.Ytfcdaelbbcfgjaa.Blocks Go.Proofs.Ytfcdaelbbcfgjaa.Ltr Go.Proofs.Ytfcdaelbbcfgjaa.NAt Go.Proofs.Ytfcdaelbbcfgjaa.App Go.Proofs.Ytfcdaelbbcfgjaa.WalkA

section
variable {B : Nat} {E : Nat → Prop} {w : World} {p : Nat} {v : Value} {L : List Lt} {lost : Nat}
theorem place_none (h : NAt B 54 E w p v [] lost) (i : Int) :
    Calls Try.prog 23 #[.pointer (some ⟨p, 0, none⟩), .int .i64 i] w fun e w' => e = .returned (.tuple #[.int .i64 0, .bool false]) ∧ Below w.heap.size w w' := by
  obtain ⟨A, c, rfl, hnc, hcm, _⟩ := h.form
  have c0 := h.c0
  have hp := h.plt
  have H := Lib.hid h
  clear h
  simp only [List.length_nil] at *
  go_enter Try.func23, Try.ntmps23
  go_wp2
  go_ret2
  exact ⟨rfl, Below.refl _ _⟩
theorem place_any (h : NAt B 54 E w p v L lost) (hn : 0 < L.length) (hfew : L.length ≤ 256) (i : Int) :
    Calls Try.prog 23 #[.pointer (some ⟨p, 0, none⟩), .int .i64 i] w fun e w' => e = .returned (.tuple #[.int .i64 (plc i L.length : Int), .bool true]) ∧ Below w.heap.size w w' := by
  obtain ⟨A, c, rfl, hnc, hcm, _⟩ := h.form
  have c0 := h.c0
  have hp := h.plt
  have H := Lib.hid h
  obtain ⟨n, hl⟩ : ∃ n, L.length = n := ⟨_, rfl⟩
  rw [hl] at c0 hnc hn hfew ⊢
  clear h hl
  have hn0 : ((n : Int) == 0) = false := by simp; omega
  have hn1 : ¬ (n : Int) = 0 := by omega
  have hcs := tmod_cases i n hn
  have hlt := plc_lt i hn
  obtain ⟨k, hk⟩ : ∃ k, plc i n = k := ⟨_, rfl⟩
  rw [hk] at hcs hlt ⊢
  clear hk
  rcases hcs with ⟨h0, h1⟩ | ⟨h0, h1⟩
  · have hw : IntKind.i64.wrap (i.tmod (n : Int) + (n : Int)) = (k : Int) := by rw [h1]; exact IntWalk.i64_in _ ⟨by omega, by omega⟩
    clear h1
    go_enter Try.func23, Try.ntmps23
    go_wp2
    go_ret2
    all_goals exact ⟨rfl, Below.refl _ _⟩
  · have H1 := Lib.hid h1
    have h0' : ¬ i.tmod (n : Int) < 0 := by omega
    clear h1
    go_enter Try.func23, Try.ntmps23
    go_wp2
    go_ret2
    exact ⟨by rw [← H1.out]; rfl, Below.refl _ _⟩
theorem count_any (h : NAt B 54 E w p v L lost) :
    Calls Try.prog 19 #[.pointer (some ⟨p, 0, none⟩)] w fun e w' => e = .returned (.tuple #[.int .i64 (L.length : Int), .int .i64 (lost : Int)]) ∧ Below w.heap.size w w' := by
  obtain ⟨A, c, rfl, hnc, hcm, _⟩ := h.form
  have c0 := h.c0
  have c1 := h.c1
  have hp := h.plt
  have H := Lib.hid h
  obtain ⟨n, hl⟩ : ∃ n, L.length = n := ⟨_, rfl⟩
  rw [hl] at c0 hnc ⊢
  clear h hl
  go_enter Try.func19, Try.ntmps19
  go_wp2_with fail
  go_quiet (fail)
  all_goals go_wp2
  all_goals go_ret2
  all_goals exact ⟨rfl, below_drewN (Below.refl _ _) _⟩
end
theorem count_nil (w : World) : Calls Try.prog 19 #[.pointer none] w fun e w' => e = .returned (.tuple #[.int .i64 0, .int .i64 0]) ∧ Below w.heap.size w w' := by
  go_enter Try.func19, Try.ntmps19
  go_wp2
  go_ret2
  exact ⟨rfl, Below.refl _ _⟩
theorem place_nil (i : Int) (w : World) : Calls Try.prog 23 #[.pointer none, .int .i64 i] w fun e w' => e = .returned (.tuple #[.int .i64 0, .bool false]) ∧ Below w.heap.size w w' := by
  go_enter Try.func23, Try.ntmps23
  go_wp2
  go_ret2
  exact ⟨rfl, Below.refl _ _⟩
theorem all_nil (w : World) : Calls Try.prog 21 #[.pointer none] w fun e w' => e = .returned (.slice none 0 0) ∧ Below w.heap.size w w' := by
  go_enter Try.func21, Try.ntmps21
  go_wp2
  go_ret
  exact ⟨rfl, Below.refl _ _⟩
theorem send_nil (x : Lt) (w : World) : Calls Try.prog 11 #[.pointer none, ltV x] w fun e w' => e = .returned (.bool false) ∧ Below w.heap.size w w' := by
  unfold ltV
  go_enter Try.func11, Try.ntmps11
  go_wp2
  go_ret
  exact ⟨rfl, (Below.refl _ _).alloc (Nat.le_refl _) _⟩
theorem double_nil (i : Int) (w : World) : Calls Try.prog 18 #[.pointer none, .int .i64 i] w fun e w' => e = .returned (.bool false) ∧ Below w.heap.size w w' := by
  go_enter Try.func18, Try.ntmps18
  go_wp2_with fail
  with_reducible refine (place_nil i w).mono ?_
  rintro e w1 ⟨rfl, hb⟩
  go_wp2
  go_ret
  exact ⟨rfl, hb⟩
end Go.Proofs.Ytfcdaelbbcfgjaa.WalkB
