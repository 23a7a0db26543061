/- What Same answers of any two commands, walked. No statement is proved here. -/
import Derived.Test.YtoehjijnkbmgmaaCmdAt
import Derived.Test.YtoehjijnkbmgmaaWalkA
import Derived.Test.YtoehjijnkbmgmaaPlnWalkB
set_option linter.unusedVariables false
set_option linter.unusedSimpArgs false
namespace Go.Proofs.Ytoehjijnkbmgmaa.Same
open Go.RowKit Go.Proofs.Ytoehjijnkbmgmaa.Kit Go.Proofs.Ytoehjijnkbmgmaa.Stq Go.Proofs.Ytoehjijnkbmgmaa.Pln Go.Proofs.Ytoehjijnkbmgmaa.Cmd Go.Proofs.Ytoehjijnkbmgmaa.CmdAt Go.Proofs.Ytoehjijnkbmgmaa.WalkA

set_option maxRecDepth 100000 in
set_option maxHeartbeats 8000000 in
theorem same_any {w : World} {A A' : Option Addr} {n n' : Nat} (c c' : Nat) {m m' : Cm} (h : CAt w A n m) (h' : CAt w A' n' m') (b : Bool) (hb : b = true ↔ m = m') :
    Calls Try.prog 16 #[cmV A n c m, cmV A' n' c' m'] w (Say w b) := by
  obtain ⟨w1, HW, hx, h1, hb1⟩ := cm_box c h
  obtain ⟨w2, HW2, hy, h2', hb2⟩ := cm_box c' (h'.below hb1)
  have hx2 := hx.below hb2
  have h2 := h1.below hb2
  have HB := Lib.hid hb
  have HBO := Lib.hid (hb1.trans (hb2.mono hb1.size))
  have HSM := Lib.hid (fun (b : Bool) (hb : b = true ↔ m.l = m'.l) => PlnWalkB.sps_any (ca := c) (cc := c') h2.rs h2'.rs h2.n63 b hb)
  clear h h' h1 h2 h2' hb hb1 hb2 hx
  obtain ⟨k, ss, sq, sg, l, st, bk, tr, ok, nw⟩ := m
  obtain ⟨k', ss', sq', sg', l', st', bk', tr', ok', nw'⟩ := m'
  unfold cmV
  simp only [Cm.mk.injEq] at HW HW2 hx2 hy HSM HB ⊢
  obtain ⟨x0, x1, x2, x3, x4, x5, x6, x7, x8, x9⟩ := hx2.all
  obtain ⟨y0, y1, y2, y3, y4, y5, y6, y7, y8, y9⟩ := hy.all
  clear hx2 hy
  by_cases hk : k = k'
  case neg =>
    obtain rfl : b = false := by
      cases b
      · rfl
      · obtain ⟨ek, ess, esq, esg, el, est, ebk, etr, eok, enw⟩ := HB.out.1 rfl
        exact absurd ek hk
    have hne : (k == k') = false := by simp only [beq_eq_false_iff_ne, ne_eq]; omega
    clear hk HSM
    go_enter Try.func16, Try.ntmps16
    go_wp2_with fail
    rw [HW.out, HW2.out]
    go_wp2
    go_ret
    exact ⟨rfl, HBO.out⟩
  subst hk
  by_cases hss : ss = ss'
  case neg =>
    obtain rfl : b = false := by
      cases b
      · rfl
      · obtain ⟨ek, ess, esq, esg, el, est, ebk, etr, eok, enw⟩ := HB.out.1 rfl
        exact absurd ess hss
    have hne : ((ss : Int) == (ss' : Int)) = false := by simp only [beq_eq_false_iff_ne, ne_eq]; omega
    clear hss HSM
    go_enter Try.func16, Try.ntmps16
    go_wp2_with fail
    rw [HW.out, HW2.out]
    go_wp2
    go_ret
    exact ⟨rfl, HBO.out⟩
  subst hss
  by_cases hsq : sq = sq'
  case neg =>
    obtain rfl : b = false := by
      cases b
      · rfl
      · obtain ⟨ek, ess, esq, esg, el, est, ebk, etr, eok, enw⟩ := HB.out.1 rfl
        exact absurd esq hsq
    have hne : ((sq : Int) == (sq' : Int)) = false := by simp only [beq_eq_false_iff_ne, ne_eq]; omega
    clear hsq HSM
    go_enter Try.func16, Try.ntmps16
    go_wp2_with fail
    rw [HW.out, HW2.out]
    go_wp2
    go_ret
    exact ⟨rfl, HBO.out⟩
  subst hsq
  by_cases hsg : sg = sg'
  case neg =>
    obtain rfl : b = false := by
      cases b
      · rfl
      · obtain ⟨ek, ess, esq, esg, el, est, ebk, etr, eok, enw⟩ := HB.out.1 rfl
        exact absurd esg hsg
    have hne : ((sg : Int) == (sg' : Int)) = false := by simp only [beq_eq_false_iff_ne, ne_eq]; omega
    clear hsg HSM
    go_enter Try.func16, Try.ntmps16
    go_wp2_with fail
    rw [HW.out, HW2.out]
    go_wp2
    go_ret
    exact ⟨rfl, HBO.out⟩
  subst hsg
  by_cases hst : st = st'
  case neg =>
    obtain rfl : b = false := by
      cases b
      · rfl
      · obtain ⟨ek, ess, esq, esg, el, est, ebk, etr, eok, enw⟩ := HB.out.1 rfl
        exact absurd est hst
    have hne : (st == st') = false := by simp only [beq_eq_false_iff_ne, ne_eq]; omega
    clear hst HSM
    go_enter Try.func16, Try.ntmps16
    go_wp2_with fail
    rw [HW.out, HW2.out]
    go_wp2
    go_ret
    exact ⟨rfl, HBO.out⟩
  subst hst
  by_cases hbk : bk = bk'
  case neg =>
    obtain rfl : b = false := by
      cases b
      · rfl
      · obtain ⟨ek, ess, esq, esg, el, est, ebk, etr, eok, enw⟩ := HB.out.1 rfl
        exact absurd ebk hbk
    have hne : (bk == bk') = false := by simp only [beq_eq_false_iff_ne, ne_eq]; cases bk <;> cases bk' <;> simp_all
    clear hbk HSM
    go_enter Try.func16, Try.ntmps16
    go_wp2_with fail
    rw [HW.out, HW2.out]
    go_wp2
    go_ret
    exact ⟨rfl, HBO.out⟩
  subst hbk
  by_cases htr : tr = tr'
  case neg =>
    obtain rfl : b = false := by
      cases b
      · rfl
      · obtain ⟨ek, ess, esq, esg, el, est, ebk, etr, eok, enw⟩ := HB.out.1 rfl
        exact absurd etr htr
    have hne : (tr == tr') = false := by simp only [beq_eq_false_iff_ne, ne_eq]; omega
    clear htr HSM
    go_enter Try.func16, Try.ntmps16
    go_wp2_with fail
    rw [HW.out, HW2.out]
    go_wp2
    go_ret
    exact ⟨rfl, HBO.out⟩
  subst htr
  by_cases hok : ok = ok'
  case neg =>
    obtain rfl : b = false := by
      cases b
      · rfl
      · obtain ⟨ek, ess, esq, esg, el, est, ebk, etr, eok, enw⟩ := HB.out.1 rfl
        exact absurd eok hok
    have hne : (ok == ok') = false := by simp only [beq_eq_false_iff_ne, ne_eq]; cases ok <;> cases ok' <;> simp_all
    clear hok HSM
    go_enter Try.func16, Try.ntmps16
    go_wp2_with fail
    rw [HW.out, HW2.out]
    go_wp2
    go_ret
    exact ⟨rfl, HBO.out⟩
  subst hok
  by_cases hnw : nw = nw'
  case neg =>
    obtain rfl : b = false := by
      cases b
      · rfl
      · obtain ⟨ek, ess, esq, esg, el, est, ebk, etr, eok, enw⟩ := HB.out.1 rfl
        exact absurd enw hnw
    have hne : ((nw : Int) == (nw' : Int)) = false := by simp only [beq_eq_false_iff_ne, ne_eq]; omega
    clear hnw HSM
    go_enter Try.func16, Try.ntmps16
    go_wp2_with fail
    rw [HW.out, HW2.out]
    go_wp2
    go_ret
    exact ⟨rfl, HBO.out⟩
  subst hnw
  have hsd : b = true ↔ l = l' := by
    rw [HB.out]
    simp
  have HS := Lib.hid (HSM.out b hsd)
  clear HSM hsd
  go_enter Try.func16, Try.ntmps16
  go_wp2_with fail
  rw [HW.out, HW2.out]
  go_wp2_with fail
  with_reducible refine HS.out.mono ?_
  rintro e w3 ⟨rfl, hb⟩
  go_wp2
  go_ret
  exact ⟨rfl, HBO.out.trans (hb.mono HBO.out.size)⟩
end Go.Proofs.Ytoehjijnkbmgmaa.Same

