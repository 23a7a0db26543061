/- What the document's Outcome answers, walked, once its Sound is known. No statement is proved here. -/
import Derived.Test.YthaepkpmpnofgaaGreatHSgaWalkE
set_option linter.unusedVariables false
set_option linter.unusedSimpArgs false
namespace Go.Proofs.YthaepkpmpnofgaaGreat.SgaWalkF
open Go.RowKit Go.Proofs.YthaepkpmpnofgaaGreat.Kit Go.Proofs.YthaepkpmpnofgaaGreat.Stq Go.Proofs.YthaepkpmpnofgaaGreat.Pln Go.Proofs.YthaepkpmpnofgaaGreat.Sag Go.Proofs.YthaepkpmpnofgaaGreat.SagAt Go.Proofs.YthaepkpmpnofgaaGreat.SgaWalkB Go.Proofs.YthaepkpmpnofgaaGreat.SgaWalkC Go.Proofs.YthaepkpmpnofgaaGreat.NewS Go.Proofs.YthaepkpmpnofgaaGreat.SgaWalkE
open Go.Proofs.YthaepkpmpnofgaaGreat.State (Only cell_at free_at lt_at)

theorem rways {s : Sg} {step : Int} {taken : Bool} {tr : Int} {ok : Bool} {s' : Sg} {b u : Bool} (hs : outc s step taken tr ok = s') (hb : takes s step taken tr ok = b) (hu : sound s = u) :
    ((u = false ∨ (u = true ∧ 2 < s.st) ∨ (u = true ∧ ¬ 2 < s.st ∧ (step != s.cu) = true) ∨ (u = true ∧ ¬ 2 < s.st ∧ (step != s.cu) = false ∧ ((taken = true ∧ (s.st == 2) = false) ∨ (taken = false ∧ (s.st == 2) = true))) ∨
      (u = true ∧ ¬ 2 < s.st ∧ (step != s.cu) = false ∧ taken = (s.st == 2) ∧ ok = false ∧ (tr != s.fa) = true)) ∧ b = false ∧ s' = s) ∨
    (u = true ∧ ¬ 2 < s.st ∧ b = true ∧ step = s.cu ∧ taken = (s.st == 2) ∧ (ok = true ∨ (ok = false ∧ (tr != s.fa) = false)) ∧ opn s = true ∧ s' = next s taken ok) := by
  obtain ⟨q, hq⟩ : ∃ q, wantC s = q := ⟨_, rfl⟩
  obtain ⟨y, hy⟩ : ∃ y, wantB s = y := ⟨_, rfl⟩
  obtain ⟨x, hx⟩ : ∃ x, opn s = x := ⟨_, rfl⟩
  have h6 := ways6 hs hb hq hy hx
  have hxu : x = (u && decide (s.st ≤ 2)) := by rw [← hx, ← hu]; rfl
  by_cases hst : 2 < s.st
  · have hxf : x = false := by rw [hxu]; simp; omega
    subst hxf
    rcases h6 with ⟨_, h7, h8⟩ | ⟨h9, _⟩
    · refine .inl ⟨?_, h7, h8⟩
      cases u
      · exact .inl rfl
      · exact .inr (.inl ⟨rfl, hst⟩)
    · cases h9
  · have hxu' : x = u := by rw [hxu]; simp; omega
    subst hxu'
    cases x
    · rcases h6 with ⟨_, h7, h8⟩ | ⟨h9, _⟩
      · exact .inl ⟨.inl rfl, h7, h8⟩
      · cases h9
    · have hqc : q = s.cu := by rw [← hq]; unfold wantC; rw [hx]; rfl
      have hyc : y = (s.st == 2) := by
        rw [← hy]; unfold wantB; rw [hx, Bool.true_and]
        by_cases e : s.st = 2 <;> simp [e]
      subst hqc
      rw [hyc] at h6
      rcases h6 with ⟨h9, h7, h8⟩ | ⟨h9, h10, h11, h12, h13, h14, h15⟩
      · refine .inl ⟨?_, h7, h8⟩
        rcases h9 with h9 | ⟨_, h9⟩ | ⟨_, h9, h10⟩ | ⟨_, h9, h10, h11, h12⟩
        · cases h9
        · exact .inr (.inr (.inl ⟨rfl, hst, h9⟩))
        · exact .inr (.inr (.inr (.inl ⟨rfl, hst, h9, h10⟩)))
        · exact .inr (.inr (.inr (.inr ⟨rfl, hst, h9, h10, h11, h12⟩)))
      · exact .inr ⟨rfl, hst, h10, by simpa using h12, h13, h14, hx, h15⟩
set_option maxRecDepth 100000 in
set_option maxHeartbeats 8000000 in
theorem routcome_any (HR : RSnd) {w : World} {A : Option Addr} (cc : Nat) {l : List Sp} {st cu fa st' cu' fa' : Int} (h : At w A l) (step : Int) (taken : Bool) (tr : Int) (ok : Bool) {b : Bool} (hs : Hid (outc ⟨l, st, cu, fa⟩ step taken tr ok = ⟨l, st', cu', fa'⟩)) (hb : Hid (takes ⟨l, st, cu, fa⟩ step taken tr ok = b)) :
    Calls Tryz.prog 32 #[.agg #[.slice A l.length cc, .int .i64 st, .int .i64 cu, .int .i64 fa], .int .i64 step, .bool taken, .int .i64 tr, .bool ok] w fun e w' => e = .returned (.tuple #[.agg #[.slice A l.length cc, .int .i64 st', .int .i64 cu', .int .i64 fa'], .bool b]) ∧ Below w.heap.size w w' := by
  obtain ⟨u, hu⟩ : ∃ u, sound ⟨l, st, cu, fa⟩ = u := ⟨_, rfl⟩
  have hcase := rways hs.out hb.out hu
  have hsd := fun w A c h => HR w A c ⟨l, st, cu, fa⟩ h u hu
  have hbk := fun A c w => rback_any A c ⟨l, st, cu, fa⟩ (cu - 1) w
  simp only at hsd hbk hcase
  unfold sgV at hbk
  simp only at hbk
  obtain ⟨hx, hy, hbo⟩ := two_new w (.slice A l.length cc) (.int .i64 st) (.int .i64 cu) (.int .i64 fa) (.slice none 0 0) (.int .i64 0) (.int .i64 0) (.int .i64 0)
  obtain ⟨w0, hw0⟩ : ∃ w0, (w.alloc (.cells #[.slice A l.length cc, .int .i64 st, .int .i64 cu, .int .i64 fa] 49)).alloc (.cells #[.slice none 0 0, .int .i64 0, .int .i64 0, .int .i64 0] 49) = w0 := ⟨_, rfl⟩
  rw [hw0] at hx hy hbo
  have h0 := h.below hbo
  have hroom := h.room
  have HW0 := Lib.hid hw0
  have HSD := Lib.hid hsd
  have HBK := Lib.hid hbk
  have HBO := Lib.hid hbo
  have HX := Lib.hid hx
  have HY := Lib.hid hy
  have HAT := Lib.hid h0
  have HCASE := Lib.hid hcase
  clear hw0 hs hb hu hsd hbk h h0 hx hy hbo hcase
  go_enter Tryz.func32, Tryz.ntmps32
  go_wp2_with fail
  rw [HW0.out]
  with_reducible refine (HSD.out _ _ _ HAT.out).mono ?_
  rintro e w3 ⟨rfl, hb3⟩
  have hx3 := HX.out.below hb3
  have hy3 := HY.out.below hb3
  have c0 := hx3.c0
  have c1 := hx3.c1
  have c2 := hx3.c2
  have c3 := hx3.c3
  have ltx := hx3.lt
  have d0 := hy3.c0
  have d1 := hy3.c1
  have d2 := hy3.c2
  have d3 := hy3.c3
  have g0 := hy3.free 0
  have g1 := hy3.free 1
  have g2 := hy3.free 2
  have g3 := hy3.free 3
  have lty := hy3.lt
  have HB3 : Hid (Below w.heap.size w w3) := HBO.out.trans (hb3.mono HBO.out.size)
  have HX3 := Lib.hid hx3
  have HY3 := Lib.hid hy3
  have HAT3 := Lib.hid (HAT.out.below hb3)
  clear hx3 hy3 hb3
  rcases HCASE.out with ⟨hno, rfl, he⟩ | ⟨rfl, h2, rfl, hsc, hty, hok, hop, he⟩
  · obtain ⟨rfl, rfl, rfl⟩ : st = st' ∧ cu = cu' ∧ fa = fa' := by
      simp only [Sg.mk.injEq, true_and] at he
      exact ⟨he.1.symm, he.2.1.symm, he.2.2.symm⟩
    obtain ⟨w4, hw4, hy4, hx4, ho4⟩ := set_back HX3.out HY3.out (.slice A l.length cc) (.int .i64 st) (.int .i64 cu) (.int .i64 fa)
    have HW4 := Lib.hid hw4
    have HY4 := Lib.hid hy4
    have HB4 : Hid (Below w.heap.size w w4) := only_below HB3.out ho4 (fun q hq => by omega) HB3.out.size
    clear he HCASE HBK hw4 hy4 hx4 ho4
    rcases hno with rfl | ⟨rfl, h2⟩ | ⟨rfl, h2, h3⟩ | ⟨rfl, h2, h3, ⟨rfl, h4⟩ | ⟨rfl, h4⟩⟩ | ⟨rfl, h2, h3, h4, rfl, h5⟩
    case inr.inr.inr.inr =>
      obtain ⟨y, hy⟩ : ∃ y, (st == 2) = y := ⟨_, rfl⟩
      rw [hy] at h4
      subst h4
      cases taken
      all_goals go_wp2
      all_goals rw [HW4.out]
      all_goals refine bodyPost_ret (res2 (p := 10) (u := 11) rfl _ rfl HY4.out) rfl ?_
      all_goals exact ⟨rfl, HB4.out⟩
    all_goals go_wp2
    all_goals rw [HW4.out]
    all_goals refine bodyPost_ret (res2 (p := 10) (u := 11) rfl _ rfl HY4.out) rfl ?_
    all_goals exact ⟨rfl, HB4.out⟩
  · obtain rfl := hsc.symm
    have hin := opn_in hop
    have hw12 := (opn_yes hop).2
    simp only at hin hw12
    have hcm : IntKind.i64.wrap (cu - 1) = cu - 1 := by rw [IntKind.wrap_i64]; omega
    have hcp : IntKind.i64.wrap (cu + 1) = cu + 1 := by rw [IntKind.wrap_i64]; omega
    obtain ⟨y, hy⟩ : ∃ y, (st == 2) = y := ⟨_, rfl⟩
    rw [hy] at hty
    subst hty
    obtain ⟨w5, hw5, hy5, hx5, ho5⟩ := set_back HX3.out HY3.out (.slice A l.length cc) (.int .i64 st') (.int .i64 cu') (.int .i64 fa')
    have HY5 := Lib.hid hy5
    have HW5 := Lib.hid hw5
    have HB5 : Hid (Below w.heap.size w w5) := only_below HB3.out ho5 (fun q hq => by omega) HB3.out.size
    have HOP := Lib.hid hop
    have HW12 := Lib.hid hw12
    clear hw5 hy5 hx5 ho5 HCASE hop hw12
    have hback : ∀ (W : World) (_ : Below w3.heap.size w3 W), ∃ w6, (((W.setCell ⟨w.heap.size + 1, 0, none⟩ (.slice A l.length cc)).setCell ⟨w.heap.size + 1, 1, none⟩ (.int .i64 st')).setCell ⟨w.heap.size + 1, 2, none⟩ (.int .i64 cu')).setCell ⟨w.heap.size + 1, 3, none⟩ (.int .i64 fa') = w6 ∧ Box4 w6 (w.heap.size + 1) (.slice A l.length cc) (.int .i64 st') (.int .i64 cu') (.int .i64 fa') ∧ Below w.heap.size w w6 := fun W hb4 => by
      obtain ⟨w6, hw6, hy6, _, ho6⟩ := set_back (HX3.out.below hb4) (HY3.out.below hb4) (.slice A l.length cc) (.int .i64 st') (.int .i64 cu') (.int .i64 fa')
      exact ⟨w6, hw6, hy6, only_below (HB3.out.trans (hb4.mono HB3.out.size)) ho6 (fun q hq => by omega) (HB3.out.trans (hb4.mono HB3.out.size)).size⟩
    have HBACK := Lib.hid hback
    clear hback
    cases taken
    · have h1 : st = 1 ∧ fa = 0 := by
        have hn2 : ¬ st = 2 := by simpa using hy
        have := HW12.out
        omega
      obtain ⟨rfl, rfl⟩ := h1
      cases ok
      · have htr : (tr != 0) = false := by rcases hok with hk | ⟨_, hk⟩; cases hk; exact hk
        have hn : back ⟨l, 1, cu, 0⟩ (cu - 1) = ⟨l, st', cu', fa'⟩ := by rw [he]; rfl
        rw [hn] at HBK
        clear hok he hn HW12
        go_wp2_with fail
        with_reducible refine (HBK.out _ _ _).mono ?_
        rintro e w4 ⟨rfl, hb4⟩
        have hx4 := HX3.out.below hb4
        have hy4 := HY3.out.below hb4
        obtain ⟨w6, hw6, hy6, hB6⟩ := HBACK.out w4 hb4
        have HY6 := Lib.hid hy6
        have HW6 := Lib.hid hw6
        have HB6 := Lib.hid hB6
        clear c0 c1 c2 c3 ltx d0 d1 d2 d3 g0 g1 g2 g3 lty
        have c0 := hx4.c0
        have c1 := hx4.c1
        have c2 := hx4.c2
        have c3 := hx4.c3
        have ltx := hx4.lt
        have d0 := hy4.c0
        have d1 := hy4.c1
        have d2 := hy4.c2
        have d3 := hy4.c3
        have g0 := hy4.free 0
        have g1 := hy4.free 1
        have g2 := hy4.free 2
        have g3 := hy4.free 3
        have lty := hy4.lt
        clear hx4 hy4 hb4 hw6 hy6 hB6
        go_wp2
        rw [HW6.out]
        refine bodyPost_ret (res2 (p := 10) (u := 11) rfl _ rfl HY6.out) rfl ?_
        exact ⟨rfl, HB6.out⟩
      · have hn : fwd ⟨l, 1, cu, 0⟩ = ⟨l, st', cu', fa'⟩ := by rw [he]; rfl
        unfold fwd at hn
        simp only [Sg.mk.injEq, true_and] at hn
        obtain ⟨e1, rfl, rfl⟩ := hn
        clear hok he HBK HW12 HBACK
        by_cases hl : cu + 1 = (l.length : Int)
        · have hl' : (cu + 1 == (l.length : Int)) = true := by simpa using hl
          rw [if_pos hl] at e1
          subst e1
          clear hl
          go_wp2
          rw [HW5.out]
          refine bodyPost_ret (res2 (p := 10) (u := 11) rfl _ rfl HY5.out) rfl ?_
          exact ⟨rfl, HB5.out⟩
        · have hl' : (cu + 1 == (l.length : Int)) = false := by simpa using hl
          rw [if_neg hl] at e1
          subst e1
          clear hl
          go_wp2
          rw [HW5.out]
          refine bodyPost_ret (res2 (p := 10) (u := 11) rfl _ rfl HY5.out) rfl ?_
          exact ⟨rfl, HB5.out⟩
    · have h1 : st = 2 := by simpa using hy
      subst h1
      cases ok
      · have htr : (tr != fa) = false := by rcases hok with hk | ⟨_, hk⟩; cases hk; exact hk
        have hn : fail ⟨l, 2, cu, fa⟩ = ⟨l, st', cu', fa'⟩ := by rw [he]; rfl
        unfold fail at hn
        simp only [Sg.mk.injEq, true_and] at hn
        obtain ⟨e1, rfl, rfl⟩ := hn
        have hfb : 0 ≤ fa ∧ fa < bud l cu := by have := HW12.out; omega
        obtain ⟨k, rfl⟩ := Int.eq_ofNat_of_zero_le hin.1
        obtain ⟨bk, o, ev, rfl, hbl, hev, hthree⟩ := RS.at_ HAT3.out.rs (show k < l.length by omega)
        have hbu := bud_at hev
        have t2 := hthree.c2
        have hb9 := bud_def (opn_yes HOP.out).1.1 hin.1 hin.2
        simp only at hb9
        obtain ⟨pt, nmx, bg⟩ := ev
        simp only at hbu t2
        rw [hbu] at e1 hfb hb9
        have hfw : IntKind.i64.wrap (fa + 1) = fa + 1 := by rw [IntKind.wrap_i64]; omega
        clear hok he HBK HW12 HBACK hthree hev hbu
        by_cases hl : fa + 1 = bg
        · have hl' : (fa + 1 == bg) = true := by simpa using hl
          rw [if_pos hl] at e1
          subst e1
          clear hl
          go_wp2_with fail
          go_region
          all_goals go_wp2
          all_goals rw [HW5.out]
          all_goals refine bodyPost_ret (res2 (p := 10) (u := 11) rfl _ rfl (HY5.out.below (below_drewN (Below.refl _ _) 1))) rfl ?_
          all_goals exact ⟨rfl, below_drewN HB5.out 1⟩
        · have hl' : (fa + 1 == bg) = false := by simpa using hl
          rw [if_neg hl] at e1
          subst e1
          clear hl
          go_wp2_with fail
          go_region
          all_goals go_wp2
          all_goals rw [HW5.out]
          all_goals refine bodyPost_ret (res2 (p := 10) (u := 11) rfl _ rfl (HY5.out.below (below_drewN (Below.refl _ _) 1))) rfl ?_
          all_goals exact ⟨rfl, below_drewN HB5.out 1⟩
      · have hn : back ⟨l, 2, cu, fa⟩ (cu - 1) = ⟨l, st', cu', fa'⟩ := by rw [he]; rfl
        rw [hn] at HBK
        clear hok he hn HW12
        go_wp2_with fail
        with_reducible refine (HBK.out _ _ _).mono ?_
        rintro e w4 ⟨rfl, hb4⟩
        have hx4 := HX3.out.below hb4
        have hy4 := HY3.out.below hb4
        obtain ⟨w6, hw6, hy6, hB6⟩ := HBACK.out w4 hb4
        have HY6 := Lib.hid hy6
        have HW6 := Lib.hid hw6
        have HB6 := Lib.hid hB6
        clear c0 c1 c2 c3 ltx d0 d1 d2 d3 g0 g1 g2 g3 lty
        have c0 := hx4.c0
        have c1 := hx4.c1
        have c2 := hx4.c2
        have c3 := hx4.c3
        have ltx := hx4.lt
        have d0 := hy4.c0
        have d1 := hy4.c1
        have d2 := hy4.c2
        have d3 := hy4.c3
        have g0 := hy4.free 0
        have g1 := hy4.free 1
        have g2 := hy4.free 2
        have g3 := hy4.free 3
        have lty := hy4.lt
        clear hx4 hy4 hb4 hw6 hy6 hB6
        go_wp2
        rw [HW6.out]
        refine bodyPost_ret (res2 (p := 10) (u := 11) rfl _ rfl HY6.out) rfl ?_
        exact ⟨rfl, HB6.out⟩
end Go.Proofs.YthaepkpmpnofgaaGreat.SgaWalkF
