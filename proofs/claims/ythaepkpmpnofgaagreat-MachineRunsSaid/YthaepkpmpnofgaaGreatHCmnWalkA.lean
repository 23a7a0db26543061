/- What May answers, the program's and the document's, walked. No statement is proved here. -/
import Derived.Test.YthaepkpmpnofgaaGreatHCmdAt
import Derived.Test.YthaepkpmpnofgaaGreatGQ1
set_option linter.unusedVariables false
set_option linter.unusedSimpArgs false
namespace Go.Proofs.YthaepkpmpnofgaaGreat.CmnWalkA
open Go.RowKit Go.Proofs.YthaepkpmpnofgaaGreat.Kit Go.Proofs.YthaepkpmpnofgaaGreat.Stq Go.Proofs.YthaepkpmpnofgaaGreat.Pln Go.Proofs.YthaepkpmpnofgaaGreat.Cmd Go.Proofs.YthaepkpmpnofgaaGreat.CmdAt

/-- What a question on a command answers. -/
def Say (w : World) (b : Bool) (e : Ending) (w' : World) : Prop := e = .returned (.bool b) ∧ Below w.heap.size w w'
theorem bare_ways (m : Cm) : (bareB m = true ∧ m.st = 0 ∧ m.bk = false ∧ m.tr = 0 ∧ m.ok = false) ∨
    (bareB m = false ∧ ((m.st == 0) = false ∨ (m.st = 0 ∧ m.bk = true) ∨ (m.st = 0 ∧ m.bk = false ∧ (m.tr == 0) = false) ∨ (m.st = 0 ∧ m.bk = false ∧ m.tr = 0 ∧ m.ok = true))) := by
  obtain ⟨k, ss, sq, sg, l, st, bk, tr, ok, nw⟩ := m
  unfold bareB
  simp only [beq_eq_false_iff_ne, ne_eq]
  by_cases h1 : st = 0 <;> by_cases h2 : tr = 0 <;> cases bk <;> cases ok <;> simp [h1, h2]
set_option maxRecDepth 100000 in
set_option maxHeartbeats 2000000 in
theorem bare_any {w : World} {A : Option Addr} {n : Nat} (c : Nat) {m : Cm} (h : CAt w A n m) : Calls Tryz.prog 95 #[cmV A n c m] w (Say w (bareB m)) := by
  obtain ⟨w1, HW, hx, _, hb⟩ := cm_box c h
  have hways := bare_ways m
  obtain ⟨bb, hbb⟩ : ∃ bb, bareB m = bb := ⟨_, rfl⟩
  rw [hbb] at hways ⊢
  clear h hbb
  obtain ⟨k, ss, sq, sg, l, st, bk, tr, ok, nw⟩ := m
  unfold cmV
  simp only at HW hx hways ⊢
  rcases hways with ⟨rfl, rfl, rfl, rfl, rfl⟩ | ⟨rfl, h1 | ⟨rfl, rfl⟩ | ⟨rfl, rfl, h1⟩ | ⟨rfl, rfl, rfl, rfl⟩⟩
  all_goals
    obtain ⟨x0, x1, x2, x3, x4, x5, x6, x7, x8, x9⟩ := hx.all
    clear hx
    go_enter Tryz.func95, Tryz.ntmps95
    go_wp2_with fail
    rw [HW.out]
    go_wp2
    go_ret
    exact ⟨rfl, hb⟩
set_option maxRecDepth 100000 in
set_option maxHeartbeats 2000000 in
theorem rbare_any {w : World} {A : Option Addr} {n : Nat} (c : Nat) {m : Cm} (h : CAt w A n m) : Calls Tryz.prog 90 #[cmV A n c m] w (Say w (bareB m)) := by
  obtain ⟨w1, HW, hx, _, hb⟩ := cm_box c h
  have hways := bare_ways m
  obtain ⟨bb, hbb⟩ : ∃ bb, bareB m = bb := ⟨_, rfl⟩
  rw [hbb] at hways ⊢
  clear h hbb
  obtain ⟨k, ss, sq, sg, l, st, bk, tr, ok, nw⟩ := m
  unfold cmV
  simp only at HW hx hways ⊢
  rcases hways with ⟨rfl, rfl, rfl, rfl, rfl⟩ | ⟨rfl, h1 | ⟨rfl, rfl⟩ | ⟨rfl, rfl, h1⟩ | ⟨rfl, rfl, rfl, rfl⟩⟩
  all_goals
    obtain ⟨x0, x1, x2, x3, x4, x5, x6, x7, x8, x9⟩ := hx.all
    clear hx
    go_enter Tryz.func90, Tryz.ntmps90
    go_wp2_with fail
    rw [HW.out]
    go_wp2
    go_ret
    exact ⟨rfl, hb⟩
theorem out_ways (m : Cm) : (outB m = true ∧ 0 ≤ m.st ∧ m.st < 64 ∧ 0 ≤ m.tr ∧ m.tr < 9 ∧ m.ss = 0 ∧ m.sq = 0) ∨
    (outB m = false ∧ (((m.ss : Int) == 0) = false ∨ (m.ss = 0 ∧ ((m.sq : Int) == 0) = false) ∨ (m.ss = 0 ∧ m.sq = 0 ∧ ¬ 0 ≤ m.st) ∨ (m.ss = 0 ∧ m.sq = 0 ∧ 0 ≤ m.st ∧ ¬ m.st < 64) ∨ (m.ss = 0 ∧ m.sq = 0 ∧ 0 ≤ m.st ∧ m.st < 64 ∧ ¬ 0 ≤ m.tr) ∨ (m.ss = 0 ∧ m.sq = 0 ∧ 0 ≤ m.st ∧ m.st < 64 ∧ 0 ≤ m.tr ∧ ¬ m.tr < 9))) := by
  unfold outB
  simp only [beq_eq_false_iff_ne, ne_eq, decide_eq_true_eq, decide_eq_false_iff_not]
  omega
set_option maxRecDepth 100000 in
set_option maxHeartbeats 2000000 in
theorem out_any {w : World} {A : Option Addr} {n : Nat} (c : Nat) {m : Cm} (h : CAt w A n m) : Calls Tryz.prog 97 #[cmV A n c m] w (Say w (outB m)) := by
  obtain ⟨w1, HW, hx, _, hb⟩ := cm_box c h
  have hways := out_ways m
  obtain ⟨bb, hbb⟩ : ∃ bb, outB m = bb := ⟨_, rfl⟩
  rw [hbb] at hways ⊢
  clear h hbb
  obtain ⟨k, ss, sq, sg, l, st, bk, tr, ok, nw⟩ := m
  unfold cmV
  simp only at HW hx hways ⊢
  rcases hways with ⟨rfl, h1, h2, h3, h4, rfl, rfl⟩ | ⟨rfl, h1 | ⟨rfl, h1⟩ | ⟨rfl, rfl, h1⟩ | ⟨rfl, rfl, h1, h2⟩ | ⟨rfl, rfl, h1, h2, h3⟩ | ⟨rfl, rfl, h1, h2, h3, h4⟩⟩
  all_goals
    obtain ⟨x0, x1, x2, x3, x4, x5, x6, x7, x8, x9⟩ := hx.all
    clear hx
    try simp only [Int.natCast_zero] at x1 x2 HW ⊢
    go_enter Tryz.func97, Tryz.ntmps97
    go_wp2_with fail
    rw [HW.out]
    go_wp2
    go_ret
    exact ⟨rfl, hb⟩
/-- A command by its kind. -/
theorem may_ways (m : Cm) : ((m.k = 1 ∨ m.k = 3 ∨ m.k = 5) ∧ ((m.l.length = 0 ∧ mayB m = bareB m) ∨ (m.l.length ≠ 0 ∧ mayB m = false))) ∨
    (m.k = 2 ∧ ((chk m.l = 0 ∧ mayB m = bareB m) ∨ (chk m.l = 44 ∧ mayB m = false))) ∨
    (m.k = 4 ∧ ((m.l.length = 0 ∧ mayB m = outB m) ∨ (m.l.length ≠ 0 ∧ mayB m = false))) ∨
    ((m.k == 1) = false ∧ (m.k == 2) = false ∧ (m.k == 3) = false ∧ (m.k == 4) = false ∧ (m.k == 5) = false ∧ mayB m = false) := by
  have hc : chk m.l = 0 ∨ chk m.l = 44 := by unfold chk; split <;> simp
  unfold mayB
  by_cases h1 : m.k = 1 ∨ m.k = 3 ∨ m.k = 5
  · refine .inl ⟨h1, ?_⟩
    rw [if_pos h1]
    by_cases hl : m.l.length = 0
    · exact .inl ⟨hl, by simp [hl]⟩
    · exact .inr ⟨hl, by simp [hl]⟩
  · rw [if_neg h1]
    by_cases h2 : m.k = 2
    · refine .inr (.inl ⟨h2, ?_⟩)
      rw [if_pos h2]
      rcases hc with hc | hc
      · exact .inl ⟨hc, by rw [hc]; simp⟩
      · exact .inr ⟨hc, by rw [hc]; simp⟩
    · rw [if_neg h2]
      by_cases h4 : m.k = 4
      · refine .inr (.inr (.inl ⟨h4, ?_⟩))
        rw [if_pos h4]
        by_cases hl : m.l.length = 0
        · exact .inl ⟨hl, by simp [hl]⟩
        · exact .inr ⟨hl, by simp [hl]⟩
      · rw [if_neg h4]
        refine .inr (.inr (.inr ⟨?_, ?_, ?_, ?_, ?_, rfl⟩)) <;> simp only [beq_eq_false_iff_ne, ne_eq] <;> omega
set_option maxRecDepth 100000 in
set_option maxHeartbeats 8000000 in
theorem may_any {w : World} {A : Option Addr} {n : Nat} (c : Nat) {m : Cm} (h : CAt w A n m) : Calls Tryz.prog 65 #[cmV A n c m] w (Say w (mayB m)) := by
  obtain ⟨w1, HW, hx, h1, hb⟩ := cm_box c h
  have hlen := RS.len h.rs
  have HBARE := Lib.hid (bare_any c h1)
  have HOUT := Lib.hid (out_any c h1)
  have HBAREW := Lib.hid (fun w' (hb : Below w1.heap.size w1 w') => bare_any c (h1.below hb))
  have hways := may_ways m
  have HCHK := Lib.hid (fun (z : Int) (hz : Hid (chk m.l = z)) => PlnWalkA.check_any (c := c) h1.rs h1.n63 h1.nm hz)
  have hn := h.n63
  have howays := out_ways m
  obtain ⟨ob, hob⟩ : ∃ ob, outB m = ob := ⟨_, rfl⟩
  obtain ⟨bb, hbb⟩ : ∃ bb, mayB m = bb := ⟨_, rfl⟩
  rw [hob] at howays
  rw [hbb] at hways ⊢
  obtain ⟨k, ss, sq, sg, l, st, bk, tr, ok, nw⟩ := m
  unfold cmV at HBARE HBAREW HOUT ⊢
  simp only at HW hx hways howays hlen HBARE HBAREW HOUT HCHK hbb hob ⊢
  have HB := Lib.hid hb
  clear h h1 hb hbb
  rcases hways with ⟨rfl | rfl | rfl, ⟨hl, hbb⟩ | ⟨hl, rfl⟩⟩ | ⟨rfl, ⟨hl, hbb⟩ | ⟨hl, rfl⟩⟩ | ⟨rfl, ⟨hl, hbb⟩ | ⟨hl, rfl⟩⟩ | ⟨k1, k2, k3, k4, k5, rfl⟩
  · obtain rfl : n = 0 := by omega
    clear hlen hl HCHK HOUT HBAREW howays hob
    obtain ⟨x0, x1, x2, x3, x4, x5, x6, x7, x8, x9⟩ := hx.all
    have HBB := Lib.hid hbb
    clear hx hbb
    go_enter Tryz.func65, Tryz.ntmps65
    go_wp2_with fail
    rw [HW.out]
    with_reducible refine HBARE.out.mono ?_
    rintro e w2 ⟨rfl, hb2⟩
    rw [← HBB.out]
    go_wp2
    go_ret
    exact ⟨rfl, HB.out.trans (hb2.mono HB.out.size)⟩
  · have hn0 : ((n : Int) == 0) = false := by simp only [beq_eq_false_iff_ne, ne_eq]; omega
    clear hlen hl HCHK HOUT HBARE HBAREW howays hob
    obtain ⟨x0, x1, x2, x3, x4, x5, x6, x7, x8, x9⟩ := hx.all
    clear hx
    go_enter Tryz.func65, Tryz.ntmps65
    go_wp2_with fail
    rw [HW.out]
    go_wp2
    go_ret
    exact ⟨rfl, HB.out⟩
  · obtain rfl : n = 0 := by omega
    clear hlen hl HCHK HOUT HBAREW howays hob
    obtain ⟨x0, x1, x2, x3, x4, x5, x6, x7, x8, x9⟩ := hx.all
    have HBB := Lib.hid hbb
    clear hx hbb
    go_enter Tryz.func65, Tryz.ntmps65
    go_wp2_with fail
    rw [HW.out]
    with_reducible refine HBARE.out.mono ?_
    rintro e w2 ⟨rfl, hb2⟩
    rw [← HBB.out]
    go_wp2
    go_ret
    exact ⟨rfl, HB.out.trans (hb2.mono HB.out.size)⟩
  · have hn0 : ((n : Int) == 0) = false := by simp only [beq_eq_false_iff_ne, ne_eq]; omega
    clear hlen hl HCHK HOUT HBARE HBAREW howays hob
    obtain ⟨x0, x1, x2, x3, x4, x5, x6, x7, x8, x9⟩ := hx.all
    clear hx
    go_enter Tryz.func65, Tryz.ntmps65
    go_wp2_with fail
    rw [HW.out]
    go_wp2
    go_ret
    exact ⟨rfl, HB.out⟩
  · obtain rfl : n = 0 := by omega
    clear hlen hl HCHK HOUT HBAREW howays hob
    obtain ⟨x0, x1, x2, x3, x4, x5, x6, x7, x8, x9⟩ := hx.all
    have HBB := Lib.hid hbb
    clear hx hbb
    go_enter Tryz.func65, Tryz.ntmps65
    go_wp2_with fail
    rw [HW.out]
    with_reducible refine HBARE.out.mono ?_
    rintro e w2 ⟨rfl, hb2⟩
    rw [← HBB.out]
    go_wp2
    go_ret
    exact ⟨rfl, HB.out.trans (hb2.mono HB.out.size)⟩
  · have hn0 : ((n : Int) == 0) = false := by simp only [beq_eq_false_iff_ne, ne_eq]; omega
    clear hlen hl HCHK HOUT HBARE HBAREW howays hob
    obtain ⟨x0, x1, x2, x3, x4, x5, x6, x7, x8, x9⟩ := hx.all
    clear hx
    go_enter Tryz.func65, Tryz.ntmps65
    go_wp2_with fail
    rw [HW.out]
    go_wp2
    go_ret
    exact ⟨rfl, HB.out⟩
  · have HC := Lib.hid (HCHK.out 0 (Lib.hid hl))
    clear hlen hl HCHK HOUT HBARE howays hob
    obtain ⟨x0, x1, x2, x3, x4, x5, x6, x7, x8, x9⟩ := hx.all
    have HBB := Lib.hid hbb
    have HX := Lib.hid hx
    clear hx hbb
    go_enter Tryz.func65, Tryz.ntmps65
    go_wp2_with fail
    rw [HW.out]
    with_reducible refine HC.out.mono ?_
    rintro e w2 ⟨rfl, hb2⟩
    obtain ⟨y0, y1, y2, y3, y4, y5, y6, y7, y8, y9⟩ := (HX.out.below hb2).all
    have hb3 := HB.out.trans (hb2.mono HB.out.size)
    have HR := HBAREW.out w2 hb2
    clear x0 x1 x2 x3 x4 x5 x6 x7 x8 x9 hb2
    go_wp2_with fail
    with_reducible refine HR.mono ?_
    rintro e w3 ⟨rfl, hb4⟩
    rw [← HBB.out]
    go_wp2
    go_ret
    exact ⟨rfl, hb3.trans (hb4.mono hb3.size)⟩
  · have HC := Lib.hid (HCHK.out 44 (Lib.hid hl))
    clear hlen hl HCHK HOUT HBARE HBAREW howays hob
    obtain ⟨x0, x1, x2, x3, x4, x5, x6, x7, x8, x9⟩ := hx.all
    clear hx
    go_enter Tryz.func65, Tryz.ntmps65
    go_wp2_with fail
    rw [HW.out]
    with_reducible refine HC.out.mono ?_
    rintro e w2 ⟨rfl, hb2⟩
    go_wp2
    go_ret
    exact ⟨rfl, HB.out.trans (hb2.mono HB.out.size)⟩
  · obtain rfl : n = 0 := by omega
    clear hlen hl HCHK HBARE HBAREW howays hob
    obtain ⟨x0, x1, x2, x3, x4, x5, x6, x7, x8, x9⟩ := hx.all
    have HBB := Lib.hid hbb
    clear hx hbb
    go_enter Tryz.func65, Tryz.ntmps65
    go_wp2_with fail
    rw [HW.out]
    with_reducible refine HOUT.out.mono ?_
    rintro e w2 ⟨rfl, hb2⟩
    rw [← HBB.out]
    go_wp2
    go_ret
    exact ⟨rfl, HB.out.trans (hb2.mono HB.out.size)⟩
  · have hn0 : ((n : Int) == 0) = false := by simp only [beq_eq_false_iff_ne, ne_eq]; omega
    clear hlen hl HCHK HOUT HBARE HBAREW howays hob
    obtain ⟨x0, x1, x2, x3, x4, x5, x6, x7, x8, x9⟩ := hx.all
    clear hx
    go_enter Tryz.func65, Tryz.ntmps65
    go_wp2_with fail
    rw [HW.out]
    go_wp2
    go_ret
    exact ⟨rfl, HB.out⟩
  · clear hlen HCHK HOUT HBARE HBAREW howays hob
    obtain ⟨x0, x1, x2, x3, x4, x5, x6, x7, x8, x9⟩ := hx.all
    clear hx
    go_enter Tryz.func65, Tryz.ntmps65
    go_wp2_with fail
    rw [HW.out]
    go_wp2
    go_ret
    exact ⟨rfl, HB.out⟩
set_option maxRecDepth 100000 in
set_option maxHeartbeats 8000000 in
theorem rmay_any {w : World} {A : Option Addr} {n : Nat} (c : Nat) {m : Cm} (h : CAt w A n m) : Calls Tryz.prog 57 #[cmV A n c m] w (Say w (mayB m)) := by
  obtain ⟨w1, HW, hx, h1, hb⟩ := cm_box c h
  have hlen := RS.len h.rs
  have HBARE := Lib.hid (rbare_any c h1)
  have HBAREW := Lib.hid (fun w' (hb : Below w1.heap.size w1 w') => rbare_any c (h1.below hb))
  have hways := may_ways m
  have HCHK := Lib.hid (fun (z : Int) (hz : Hid (chk m.l = z)) => PlnWalkB.rcheck_any (c := c) h1.rs h1.n63 h1.nm hz)
  have hn := h.n63
  have howays := out_ways m
  obtain ⟨ob, hob⟩ : ∃ ob, outB m = ob := ⟨_, rfl⟩
  obtain ⟨bb, hbb⟩ : ∃ bb, mayB m = bb := ⟨_, rfl⟩
  rw [hob] at howays
  rw [hbb] at hways ⊢
  obtain ⟨k, ss, sq, sg, l, st, bk, tr, ok, nw⟩ := m
  unfold cmV at HBARE HBAREW ⊢
  simp only at HW hx hways howays hlen HBARE HBAREW HCHK hbb hob ⊢
  have HB := Lib.hid hb
  clear h h1 hb hbb
  rcases hways with ⟨rfl | rfl | rfl, ⟨hl, hbb⟩ | ⟨hl, rfl⟩⟩ | ⟨rfl, ⟨hl, hbb⟩ | ⟨hl, rfl⟩⟩ | ⟨rfl, ⟨hl, hbb⟩ | ⟨hl, rfl⟩⟩ | ⟨k1, k2, k3, k4, k5, rfl⟩
  · obtain rfl : n = 0 := by omega
    clear hlen hl HCHK  HBAREW howays hob
    obtain ⟨x0, x1, x2, x3, x4, x5, x6, x7, x8, x9⟩ := hx.all
    have HBB := Lib.hid hbb
    clear hx hbb
    go_enter Tryz.func57, Tryz.ntmps57
    go_wp2_with fail
    rw [HW.out]
    with_reducible refine HBARE.out.mono ?_
    rintro e w2 ⟨rfl, hb2⟩
    rw [← HBB.out]
    go_wp2
    go_ret
    exact ⟨rfl, HB.out.trans (hb2.mono HB.out.size)⟩
  · have hn0 : ((n : Int) == 0) = false := by simp only [beq_eq_false_iff_ne, ne_eq]; omega
    clear hlen hl HCHK  HBARE HBAREW howays hob
    obtain ⟨x0, x1, x2, x3, x4, x5, x6, x7, x8, x9⟩ := hx.all
    clear hx
    go_enter Tryz.func57, Tryz.ntmps57
    go_wp2_with fail
    rw [HW.out]
    go_wp2
    go_ret
    exact ⟨rfl, HB.out⟩
  · obtain rfl : n = 0 := by omega
    clear hlen hl HCHK  HBAREW howays hob
    obtain ⟨x0, x1, x2, x3, x4, x5, x6, x7, x8, x9⟩ := hx.all
    have HBB := Lib.hid hbb
    clear hx hbb
    go_enter Tryz.func57, Tryz.ntmps57
    go_wp2_with fail
    rw [HW.out]
    with_reducible refine HBARE.out.mono ?_
    rintro e w2 ⟨rfl, hb2⟩
    rw [← HBB.out]
    go_wp2
    go_ret
    exact ⟨rfl, HB.out.trans (hb2.mono HB.out.size)⟩
  · have hn0 : ((n : Int) == 0) = false := by simp only [beq_eq_false_iff_ne, ne_eq]; omega
    clear hlen hl HCHK  HBARE HBAREW howays hob
    obtain ⟨x0, x1, x2, x3, x4, x5, x6, x7, x8, x9⟩ := hx.all
    clear hx
    go_enter Tryz.func57, Tryz.ntmps57
    go_wp2_with fail
    rw [HW.out]
    go_wp2
    go_ret
    exact ⟨rfl, HB.out⟩
  · obtain rfl : n = 0 := by omega
    clear hlen hl HCHK  HBAREW howays hob
    obtain ⟨x0, x1, x2, x3, x4, x5, x6, x7, x8, x9⟩ := hx.all
    have HBB := Lib.hid hbb
    clear hx hbb
    go_enter Tryz.func57, Tryz.ntmps57
    go_wp2_with fail
    rw [HW.out]
    with_reducible refine HBARE.out.mono ?_
    rintro e w2 ⟨rfl, hb2⟩
    rw [← HBB.out]
    go_wp2
    go_ret
    exact ⟨rfl, HB.out.trans (hb2.mono HB.out.size)⟩
  · have hn0 : ((n : Int) == 0) = false := by simp only [beq_eq_false_iff_ne, ne_eq]; omega
    clear hlen hl HCHK  HBARE HBAREW howays hob
    obtain ⟨x0, x1, x2, x3, x4, x5, x6, x7, x8, x9⟩ := hx.all
    clear hx
    go_enter Tryz.func57, Tryz.ntmps57
    go_wp2_with fail
    rw [HW.out]
    go_wp2
    go_ret
    exact ⟨rfl, HB.out⟩
  · have HC := Lib.hid (HCHK.out 0 (Lib.hid hl))
    clear hlen hl HCHK  HBARE howays hob
    obtain ⟨x0, x1, x2, x3, x4, x5, x6, x7, x8, x9⟩ := hx.all
    have HBB := Lib.hid hbb
    have HX := Lib.hid hx
    clear hx hbb
    go_enter Tryz.func57, Tryz.ntmps57
    go_wp2_with fail
    rw [HW.out]
    with_reducible refine HC.out.mono ?_
    rintro e w2 ⟨rfl, hb2⟩
    obtain ⟨y0, y1, y2, y3, y4, y5, y6, y7, y8, y9⟩ := (HX.out.below hb2).all
    have hb3 := HB.out.trans (hb2.mono HB.out.size)
    have HR := HBAREW.out w2 hb2
    clear x0 x1 x2 x3 x4 x5 x6 x7 x8 x9 hb2
    go_wp2_with fail
    with_reducible refine HR.mono ?_
    rintro e w3 ⟨rfl, hb4⟩
    rw [← HBB.out]
    go_wp2
    go_ret
    exact ⟨rfl, hb3.trans (hb4.mono hb3.size)⟩
  · have HC := Lib.hid (HCHK.out 44 (Lib.hid hl))
    clear hlen hl HCHK  HBARE HBAREW howays hob
    obtain ⟨x0, x1, x2, x3, x4, x5, x6, x7, x8, x9⟩ := hx.all
    clear hx
    go_enter Tryz.func57, Tryz.ntmps57
    go_wp2_with fail
    rw [HW.out]
    with_reducible refine HC.out.mono ?_
    rintro e w2 ⟨rfl, hb2⟩
    go_wp2
    go_ret
    exact ⟨rfl, HB.out.trans (hb2.mono HB.out.size)⟩
  · obtain rfl : n = 0 := by omega
    rw [hob] at hbb
    subst hbb
    clear hlen hl HCHK HBARE HBAREW hob
    have h6 : ∀ x : Int, x < 64 → x ≤ 63 := fun x h => by omega
    have h9 : ∀ x : Int, x < 9 → x ≤ 8 := fun x h => by omega
    have g6 : ∀ x : Int, ¬ x < 64 → ¬ x ≤ 63 := fun x h => by omega
    have g9 : ∀ x : Int, ¬ x < 9 → ¬ x ≤ 8 := fun x h => by omega
    have hz : ((0 : Nat) : Int) = 0 := rfl
    rcases howays with ⟨rfl, p1, p2, p3, p4, rfl, rfl⟩ | ⟨rfl, q⟩
    · have p2' := h6 _ p2
      have p4' := h9 _ p4
      clear p2 p4 h6 h9 g6 g9
      obtain ⟨x0, x1, x2, x3, x4, x5, x6, x7, x8, x9⟩ := hx.all
      clear hx
      simp only [Int.natCast_zero] at x1 x2 HW ⊢
      go_enter Tryz.func57, Tryz.ntmps57
      go_wp2_with fail
      rw [HW.out]
      go_wp2
      go_ret
      exact ⟨rfl, HB.out⟩
    · have hq : (¬ 0 ≤ st) ∨ (0 ≤ st ∧ ¬ st ≤ 63) ∨ (0 ≤ st ∧ st ≤ 63 ∧ ¬ 0 ≤ tr) ∨ (0 ≤ st ∧ st ≤ 63 ∧ 0 ≤ tr ∧ ¬ tr ≤ 8) ∨ (0 ≤ st ∧ st ≤ 63 ∧ 0 ≤ tr ∧ tr ≤ 8 ∧ ((ss : Int) == 0) = false) ∨ (0 ≤ st ∧ st ≤ 63 ∧ 0 ≤ tr ∧ tr ≤ 8 ∧ ss = 0 ∧ ((sq : Int) == 0) = false) := by
        simp only [beq_eq_false_iff_ne, ne_eq] at q ⊢
        omega
      clear q h6 h9 g6 g9
      rcases hq with p1 | ⟨p1, p2⟩ | ⟨p1, p2, p3⟩ | ⟨p1, p2, p3, p4⟩ | ⟨p1, p2, p3, p4, p5⟩ | ⟨p1, p2, p3, p4, rfl, p5⟩
      all_goals
        obtain ⟨x0, x1, x2, x3, x4, x5, x6, x7, x8, x9⟩ := hx.all
        clear hx
        try simp only [Int.natCast_zero] at x1 HW ⊢
        go_enter Tryz.func57, Tryz.ntmps57
        go_wp2_with fail
        rw [HW.out]
        go_wp2
        go_ret
        exact ⟨rfl, HB.out⟩
  · have hn0 : ((n : Int) == 0) = false := by simp only [beq_eq_false_iff_ne, ne_eq]; omega
    clear hlen hl HCHK  HBARE HBAREW howays hob
    obtain ⟨x0, x1, x2, x3, x4, x5, x6, x7, x8, x9⟩ := hx.all
    clear hx
    go_enter Tryz.func57, Tryz.ntmps57
    go_wp2_with fail
    rw [HW.out]
    go_wp2
    go_ret
    exact ⟨rfl, HB.out⟩
  · clear hlen HCHK  HBARE HBAREW howays hob
    obtain ⟨x0, x1, x2, x3, x4, x5, x6, x7, x8, x9⟩ := hx.all
    clear hx
    go_enter Tryz.func57, Tryz.ntmps57
    go_wp2_with fail
    rw [HW.out]
    go_wp2
    go_ret
    exact ⟨rfl, HB.out⟩
end Go.Proofs.YthaepkpmpnofgaaGreat.CmnWalkA
