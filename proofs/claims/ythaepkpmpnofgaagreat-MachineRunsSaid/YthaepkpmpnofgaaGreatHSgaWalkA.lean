/- Whether a saga can be, the program's word, walked. No statement is proved here. -/
import Derived.Test.YthaepkpmpnofgaaGreatHWays
import Derived.Test.YthaepkpmpnofgaaGreatGQ1
import Derived.BigQuiet
import Derived.BigRegion
import Derived.Deep.QuietTactic
set_option linter.unusedVariables false
set_option linter.unusedSimpArgs false
namespace Go.Proofs.YthaepkpmpnofgaaGreat.SgaWalkA
open Go.RowKit Go.Proofs.YthaepkpmpnofgaaGreat.Kit Go.Proofs.YthaepkpmpnofgaaGreat.Stq Go.Proofs.YthaepkpmpnofgaaGreat.Pln Go.Proofs.YthaepkpmpnofgaaGreat.Sag Go.Proofs.YthaepkpmpnofgaaGreat.SagAt Go.Proofs.YthaepkpmpnofgaaGreat.Ways
open Go.Proofs.YthaepkpmpnofgaaGreat.PlnWalkA (check_any)
open Go.Proofs.YthaepkpmpnofgaaGreat.PlnWalkB (rcheck_any)
open Go.Proofs.YthaepkpmpnofgaaGreat.State (cell_at free_at lt_at)


set_option maxRecDepth 100000 in
set_option maxHeartbeats 8000000 in
/-- The program's. -/
theorem sound_any {w : World} {A : Option Addr} {c : Nat} {s : Sg} (h : At w A s.l) {b : Bool} (hb : Hid (sound s = b)) :
    Calls Tryz.prog 109 #[sgV A c s] w fun e w' => e = .returned (.bool b) ∧ Below w.heap.size w w' := by
  have hw := fun hc => sgWays s hc b hb.out
  have hno : chk s.l = 44 → b = false := fun e => hb.out.symm.trans (sound_not fun k => by rw [k.1] at e; cases e)
  obtain ⟨l, st, cu, fa⟩ := s
  simp only at h hw hno
  have hbo : Below w.heap.size w (w.alloc (.cells #[.slice A l.length c, .int .i64 st, .int .i64 cu, .int .i64 fa] 49)) := (Below.refl _ _).alloc (Nat.le_refl _) _
  have hx0 := Box4.new w (.slice A l.length c) (.int .i64 st) (.int .i64 cu) (.int .i64 fa)
  have h0 := h.below hbo
  obtain ⟨w1, hw1⟩ : ∃ w1, w.alloc (.cells #[.slice A l.length c, .int .i64 st, .int .i64 cu, .int .i64 fa] 49) = w1 := ⟨_, rfl⟩
  rw [hw1] at hbo hx0 h0
  have HW1 := Lib.hid hw1
  unfold sgV
  simp only
  clear hw1 h hb
  rcases chk_or l with hz | hz
  · have hway := Lib.hid (hw hz)
    have HZ := Lib.hid hz
    clear hw hno hz
    go_enter Tryz.func109, Tryz.ntmps109
    go_wp2_with fail
    rw [HW1.out]
    go_wp2_with fail
    with_reducible refine (check_any h0.rs h0.few h0.nm HZ).mono ?_
    rintro e w2 ⟨rfl, hb2⟩
    have hx := hx0.below hb2
    have c0 := hx.c0
    have c1 := hx.c1
    have c2 := hx.c2
    have c3 := hx.c3
    have hB := hbo.trans (hb2.mono hbo.size)
    have hB' : ∀ k, Below w.heap.size w (w2.drewN k) := fun k => below_drewN hB k
    have hrs := rs_later h0.rs hb2
    clear hx hx0 h0 hb2 hbo
    rcases hway.out with ⟨⟨i0, i1⟩, hin⟩ | ⟨hi, rfl, hs⟩ | ⟨i0, i1, rfl, rfl⟩ | ⟨⟨i0, i1⟩, rfl, hs⟩ | ⟨hi, hs, rfl, rfl⟩ | ⟨hi, rfl, s1, s2, s3, s4, s5⟩
    · obtain ⟨k, rfl⟩ := Int.eq_ofNat_of_zero_le i0
      obtain ⟨bk, o, e, rfl, hbl, he, hthree⟩ := RS.at_ hrs (show k < l.length by omega)
      have hbu := bud_at he
      have t2 := hthree.c2
      rw [hbu] at hin
      obtain ⟨pt, nm, bg⟩ := e
      simp only at hin t2
      clear hthree he hbu hrs
      rcases hin with ⟨rfl, hin⟩ | ⟨rfl, hin⟩ | ⟨rfl, q, rfl⟩ | ⟨rfl, hin⟩ | ⟨rfl, hin⟩
      · rcases hin with ⟨rfl, rfl⟩ | ⟨q, rfl⟩
        all_goals go_wp2
        all_goals go_ret
        all_goals exact ⟨rfl, hB⟩
      · rcases hin with ⟨q, q1, rfl⟩ | ⟨q, rfl⟩ | ⟨q, q1, rfl⟩
        · go_wp2_with fail
          go_region
          all_goals go_wp2
          all_goals go_ret
          all_goals exact ⟨rfl, hB' _⟩
        · have qd := decide_eq_false (show ¬ (0 : Int) ≤ fa by omega)
          go_wp2_with fail
          go_region
          all_goals go_wp2
          all_goals go_ret
          all_goals exact ⟨rfl, hB' _⟩
        · have qd := decide_eq_false (show ¬ fa < bg by omega)
          go_wp2_with fail
          go_region
          all_goals go_wp2
          all_goals go_ret
          all_goals exact ⟨rfl, hB' _⟩
      · go_wp2
        go_ret
        exact ⟨rfl, hB⟩
      · rcases hin with ⟨q, q1, rfl⟩ | ⟨q, q1, rfl⟩ | ⟨q, rfl⟩
        all_goals go_wp2
        all_goals go_ret
        all_goals exact ⟨rfl, hB⟩
      · rcases hin with ⟨q, rfl⟩ | ⟨q, rfl⟩
        · go_wp2_with fail
          go_region
          all_goals go_wp2
          all_goals go_ret
          all_goals exact ⟨rfl, hB' _⟩
        · go_wp2_with fail
          go_region
          all_goals go_wp2
          all_goals go_ret
          all_goals exact ⟨rfl, hB' _⟩
    · rcases hs with rfl | rfl | rfl
      · rcases hi with i0 | ⟨i0, i1⟩
        all_goals go_wp2
        all_goals go_ret
        all_goals exact ⟨rfl, hB⟩
      · rcases hi with i0 | ⟨i0, i1⟩
        · have qd := decide_eq_false (show ¬ (0 : Int) ≤ cu by omega)
          go_wp2_with fail
          go_region
          all_goals go_wp2
          all_goals go_ret
          all_goals exact ⟨rfl, hB' _⟩
        · have qd := decide_eq_false (show ¬ cu < (l.length : Int) by omega)
          go_wp2_with fail
          go_region
          all_goals go_wp2
          all_goals go_ret
          all_goals exact ⟨rfl, hB' _⟩
      · rcases hi with i0 | ⟨i0, i1⟩
        · have qd := decide_eq_false (show ¬ (0 : Int) ≤ cu by omega)
          go_wp2_with fail
          go_region
          all_goals go_wp2
          all_goals go_ret
          all_goals exact ⟨rfl, hB' _⟩
        · have qd := decide_eq_false (show ¬ cu < (l.length : Int) by omega)
          go_wp2_with fail
          go_region
          all_goals go_wp2
          all_goals go_ret
          all_goals exact ⟨rfl, hB' _⟩
    · go_wp2
      go_ret
      exact ⟨rfl, hB⟩
    · rcases hs with ⟨q, rfl, rfl⟩ | ⟨q, q1, rfl⟩ | ⟨q, rfl⟩
      all_goals go_wp2
      all_goals go_ret
      all_goals exact ⟨rfl, hB⟩
    · rcases hi with i0 | ⟨i0, i1⟩
      all_goals go_wp2
      all_goals go_ret
      all_goals exact ⟨rfl, hB⟩
    · rcases hi with i0 | ⟨i0, i1⟩ | ⟨i0, i1⟩
      all_goals go_wp2
      all_goals go_ret
      all_goals exact ⟨rfl, hB⟩
  · obtain rfl := hno hz
    have HZ := Lib.hid hz
    clear hw hno hz
    go_enter Tryz.func109, Tryz.ntmps109
    go_wp2_with fail
    rw [HW1.out]
    go_wp2_with fail
    with_reducible refine (check_any h0.rs h0.few h0.nm HZ).mono ?_
    rintro e w2 ⟨rfl, hb2⟩
    go_wp2
    go_ret
    exact ⟨rfl, hbo.trans (hb2.mono hbo.size)⟩

end Go.Proofs.YthaepkpmpnofgaaGreat.SgaWalkA
