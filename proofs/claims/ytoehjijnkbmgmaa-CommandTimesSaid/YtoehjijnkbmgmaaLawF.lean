/- The walk of the statement that a command with another time is the same one but for that. -/
import Derived.Test.YtoehjijnkbmgmaaLaw
import Derived.Deep.Cut
set_option linter.unusedVariables false
set_option linter.unusedSimpArgs false
namespace Go.Proofs.Ytoehjijnkbmgmaa.LawF
open Go.RowKit Go.Proofs.Ytoehjijnkbmgmaa.Kit Go.Proofs.Ytoehjijnkbmgmaa.Rdr Go.Proofs.Ytoehjijnkbmgmaa.Stq Go.Proofs.Ytoehjijnkbmgmaa.Pln Go.Proofs.Ytoehjijnkbmgmaa.Cmd Go.Proofs.Ytoehjijnkbmgmaa.CmdAt Go.Proofs.Ytoehjijnkbmgmaa.WalkA Go.Proofs.Ytoehjijnkbmgmaa.WalkB Go.Proofs.Ytoehjijnkbmgmaa.WalkC Go.Proofs.Ytoehjijnkbmgmaa.Dx Go.Proofs.Ytoehjijnkbmgmaa.Same Go.Proofs.Ytoehjijnkbmgmaa.Begun Go.Proofs.Ytoehjijnkbmgmaa.Law
open Go.Proofs.Ytoehjijnkbmgmaa.PckWalkH (str str_size)

set_option maxRecDepth 100000 in
set_option maxHeartbeats 8000000 in
/-- A command that may not be. -/
theorem times_no (A : Option Addr) (n c : Nat) (m : Cm) (x : Nat) (w : World) (h : CAt w A n m) (hm : mayB m = false) : Calls Try.prog 8 #[cmV A n c m, .int .u64 (x : Int)] w fun e w' => e = .returned (.bool true) ∧ Below w.heap.size w w' := by
  obtain ⟨w1, HW, hx, h1, hb⟩ := cm_box c h
  have hways : encZ m = 44 ∨ encZ m = 1 := (encZ_not hm).elim (fun h => .inl h.1) (fun h => .inr h.1)
  have HE := Lib.hid (fun w' (hb : Below w1.heap.size w1 w') => enc_not c (h1.below hb) hm rfl)
  obtain ⟨z, hz⟩ : ∃ z, encZ m = z := ⟨_, rfl⟩
  rw [hz] at HE hways
  have hz0 : (z != 0) = true := by rcases hways with rfl | rfl <;> rfl
  clear h h1 hz hm hways
  obtain ⟨k, ss, sq, sg, l, st, bk, tr, ok, nw⟩ := m
  unfold cmV at HE ⊢
  simp only at HE HW hx ⊢
  have HB := Lib.hid hb
  obtain ⟨G, hG⟩ : ∃ G, w.heap.size = G := ⟨_, rfl⟩
  rw [hG] at hx
  have HX := Lib.hid hx
  clear hb hx
  go_enter Try.func8, Try.ntmps8
  go_wp2_with fail
  rw [HW.out]
  with_reducible refine (begun_true w1).mono ?_
  rintro e w2 ⟨rfl, hb2⟩
  obtain ⟨x0, x1, x2, x3, x4, x5, x6, x7, x8, x9⟩ := (HX.out.below hb2).all
  go_wp2_with fail
  with_reducible refine (HE.out w2 hb2).mono ?_
  rintro e w3 ⟨rfl, hb3⟩
  have hB3 := hb2.trans (hb3.mono hb2.size)
  have HB3 := Lib.hid (HB.out.trans (hB3.mono HB.out.size))
  clear hb2 hb3 x0 x1 x2 x3 x4 x5 x6 x7 x8 x9 hB3
  go_wp2
  go_ret
  exact ⟨rfl, HB3.out⟩

set_option maxRecDepth 100000 in
set_option maxHeartbeats 16000000 in
/-- A command that may be. -/
theorem times_yes (A : Option Addr) (n c : Nat) (m : Cm) (x : Nat) (w : World) (h : CAt w A n m) (hx64 : x < 18446744073709551616) (hm : mayB m = true) : Calls Try.prog 8 #[cmV A n c m, .int .u64 (x : Int)] w fun e w' => e = .returned (.bool true) ∧ Below w.heap.size w w' := by
  obtain ⟨w1, HW, hx, h1, hb⟩ := cm_box c h
  obtain ⟨m2, hm2⟩ : ∃ m2 : Cm, m2 = ⟨m.k, m.ss, m.sq, m.sg, m.l, m.st, m.bk, m.tr, m.ok, x⟩ := ⟨_, rfl⟩
  have hmay2 : mayB m2 = true := by rw [← hm, hm2]; rfl
  have hfin2 : Fin m2 := by rw [hm2]; exact ⟨h.fin.ss, h.fin.sq, h.fin.sg, hx64⟩
  have hsz2 := may_size hfin2 hmay2
  obtain ⟨hy, hd⟩ := yes_go hfin2 hmay2
  obtain ⟨_, hd1⟩ := yes_go h.fin hm
  have hz := (dec_yes hy).2
  obtain ⟨S, hS⟩ : ∃ S, str (cmB m) = S := ⟨_, rfl⟩
  obtain ⟨S2, hS2⟩ : ∃ S, str (cmB m2) = S := ⟨_, rfl⟩
  rw [hS2] at hsz2 hd hz
  rw [hS] at hd1
  have hway : ((S.toList == S2.toList) = true ∧ ((m.nw : Int) == (x : Int)) = true) ∨ ((S.toList == S2.toList) = false ∧ ((m.nw : Int) == (x : Int)) = false) := by
    by_cases he : m.nw = x
    · left
      have : m2 = m := by rw [hm2, ← he]
      rw [this, hS] at hS2
      rw [← hS2, he]
      exact ⟨by simp, by simp⟩
    · right
      refine ⟨?_, by simp only [beq_eq_false_iff_ne, ne_eq]; omega⟩
      rw [beq_eq_false_iff_ne]
      intro e
      have := (PlnWalkB.text_eq S S2).1 e
      rw [this, hd] at hd1
      rw [← hd1, hm2] at he
      exact he rfl
  have HE := Lib.hid (fun w' (hb : Below w1.heap.size w1 w') => enc_may c (h1.below hb) hm hS)
  have HE2 := Lib.hid (fun w' (hb : Below w1.heap.size w1 w') => enc_may c (m := m2) ⟨by rw [hm2]; exact (h1.below hb).rs, h1.n63, by rw [hm2]; exact h1.nm, hfin2⟩ hmay2 hS2)
  have HD := Lib.hid (dec_lit hsz2 hd hz)
  have HSAME := Lib.hid (fun w' A n A' n' c c' (h : CAt w' A n m) (h' : CAt w' A' n' m) => same_any c c' h h' true (by simp))
  have HA1 := Lib.hid h1
  have HBACK : Hid (∀ w' A' n', CAt w' A' n' m2 → CAt w' A' n' m) := fun w' A' n' g => ⟨by have := g.rs; rw [hm2] at this; exact this, g.n63, by have := g.nm; rw [hm2] at this; exact this, h.fin⟩
  clear h h1 hz hm hy hd hd1 hsz2 hS hS2 hmay2 hfin2
  subst hm2
  obtain ⟨k, ss, sq, sg, l, st, bk, tr, ok, nw⟩ := m
  unfold cmV at HE HE2 HSAME ⊢
  simp only at HE HE2 HSAME HW hx hway ⊢
  have HB := Lib.hid hb
  obtain ⟨G, hG⟩ : ∃ G, w.heap.size = G := ⟨_, rfl⟩
  rw [hG] at hx
  have HX := Lib.hid hx
  have HWAY := Lib.hid hway
  clear hb hx hway
  go_enter Try.func8, Try.ntmps8
  go_wp2_with fail
  rw [HW.out]
  with_reducible refine (begun_true w1).mono ?_
  rintro e w2 ⟨rfl, hb2⟩
  obtain ⟨x0, x1, x2, x3, x4, x5, x6, x7, x8, x9⟩ := (HX.out.below hb2).all
  go_wp2_with fail
  with_reducible refine (HE.out w2 hb2).mono ?_
  rintro e w3 ⟨rfl, hb3⟩
  have hB3 := hb2.trans (hb3.mono hb2.size)
  clear hb2 hb3 x0 x1 x2 x3 x4 x5 x6 x7 x8 x9 hG
  have hx3 := HX.out.below hB3
  obtain ⟨x0, x1, x2, x3, x4, x5, x6, x7, x8, x9⟩ := hx3.all
  have hGl3 := hx3.lt
  have hd4 := Bx.new w3 (.int .i64 k) (.int .u64 (ss : Int)) (.int .u64 (sq : Int)) (.int .u64 (sg : Int)) (.slice A n c) (.int .i64 st) (.bool bk) (.int .i64 tr) (.bool ok) (.int .u64 (nw : Int))
  have hb4 : Below w3.heap.size w3 (w3.alloc (.cells #[.int .i64 k, .int .u64 (ss : Int), .int .u64 (sq : Int), .int .u64 (sg : Int), .slice A n c, .int .i64 st, .bool bk, .int .i64 tr, .bool ok, .int .u64 (nw : Int)] 25)) := (Below.refl _ _).alloc (Nat.le_refl _) _
  obtain ⟨w4, hw4⟩ : ∃ w4, w3.alloc (.cells #[.int .i64 k, .int .u64 (ss : Int), .int .u64 (sq : Int), .int .u64 (sg : Int), .slice A n c, .int .i64 st, .bool bk, .int .i64 tr, .bool ok, .int .u64 (nw : Int)] 25) = w4 := ⟨_, rfl⟩
  obtain ⟨D, hD⟩ : ∃ D, w3.heap.size = D := ⟨_, rfl⟩
  rw [hw4] at hd4 hb4
  have hb4' : Below D w3 w4 := by rw [← hD]; exact hb4
  rw [hD] at hd4
  have HW4 := Lib.hid hw4
  clear hw4
  go_upto_region 7 with fail
  rw [HW4.out]
  clear x0 x1 x2 x3 x4 x5 x6 x7 x8 x9
  obtain ⟨d0, d1, d2, d3, d4, d5, d6, d7, d8, d9⟩ := hd4.all
  have df := hd4.free
  have hDl := hd4.lt
  obtain ⟨hd5, ho5⟩ := hd4.set9 (.int .u64 (x : Int))
  have hb5 : Below w3.heap.size w3 (w4.setCell ⟨D, 9, none⟩ (.int .u64 (x : Int))) := hb4.trans (ho5.below hb4.size fun k hk => by rw [hk, hD]; exact Nat.le_refl _)
  obtain ⟨w5, hw5⟩ : ∃ w5, w4.setCell ⟨D, 9, none⟩ (.int .u64 (x : Int)) = w5 := ⟨_, rfl⟩
  rw [hw5] at hd5 hb5
  have HW5 := Lib.hid hw5
  have hB5 := hB3.trans (hb5.mono hB3.size)
  clear hw5 hb4 hb4' ho5 hb5 hd4 hx3 hGl3 hB3
  go_upto_region 8 with fail
  rw [HW5.out]
  clear d0 d1 d2 d3 d4 d5 d6 d7 d8 d9 df hDl hD
  obtain ⟨d0, d1, d2, d3, d4, d5, d6, d7, d8, d9⟩ := hd5.all
  go_wp2_with fail
  with_reducible refine (HE2.out w5 hB5).mono ?_
  rintro e w6 ⟨rfl, hb6⟩
  have hB6 := hB5.trans (hb6.mono hB5.size)
  clear d0 d1 d2 d3 d4 d5 d6 d7 d8 d9 hd5 hb6 hB5
  go_wp2_with fail
  with_reducible refine (HD.out w6).mono ?_
  rintro e w7 ⟨A', n', c', rfl, hA', hb7⟩
  obtain ⟨w8, HW8, hy8, hA8, hb8⟩ := cm_box c' hA'
  have hB8 := hB6.trans ((hb7.trans (hb8.mono hb7.size)).mono hB6.size)
  obtain ⟨Y, hY⟩ : ∃ Y, w7.heap.size = Y := ⟨_, rfl⟩
  rw [hY] at hy8
  simp only at HW8 hy8
  unfold cmV
  simp only
  go_upto_region 10 with fail
  rw [HW8.out]
  have hx8 := HX.out.below hB8
  obtain ⟨x0, x1, x2, x3, x4, x5, x6, x7, x8, x9⟩ := hx8.all
  obtain ⟨y0, y1, y2, y3, y4, y5, y6, y7, y8, y9⟩ := hy8.all
  have yf := hy8.free
  have hYl := hy8.lt
  have hGl := hx8.lt
  have hGY : G < Y := by have := (HX.out.below (hB6.trans (hb7.mono hB6.size))).lt; omega
  obtain ⟨hy9, ho9⟩ := hy8.set9 (.int .u64 (nw : Int))
  have hx9' := hx8.keep ho9 (fun e => by omega)
  have hB9 : Below w1.heap.size w1 (w8.setCell ⟨Y, 9, none⟩ (.int .u64 (nw : Int))) := hB8.trans (ho9.below hB8.size fun k hk => by have := (hB6.trans (hb7.mono hB6.size)).size; omega)
  have hA9 : CAt (w8.setCell ⟨Y, 9, none⟩ (.int .u64 (nw : Int))) A' n' ⟨k, ss, sq, sg, l, st, bk, tr, ok, x⟩ := by
    have hkeep : Below w7.heap.size w7 (w8.setCell ⟨Y, 9, none⟩ (.int .u64 (nw : Int))) := hb8.trans (ho9.below hb8.size fun k hk => by omega)
    exact hA'.below hkeep
  obtain ⟨w9, hw9⟩ : ∃ w9, w8.setCell ⟨Y, 9, none⟩ (.int .u64 (nw : Int)) = w9 := ⟨_, rfl⟩
  rw [hw9] at hy9 hx9' hB9 hA9
  have HW9 := Lib.hid hw9
  have hAA := HA1.out.below hB9
  have HS := Lib.hid (HSAME.out w9 A' n' A n c' c (HBACK.out _ _ _ hA9) hAA)
  have HB9 := Lib.hid (HB.out.trans (hB9.mono HB.out.size))
  clear hw9 hy8 hx8 hB8 hB6 hb7 hb8 hA8 hA' ho9 hB9 hA9 hAA hY
  go_upto_region 11 with fail
  rw [HW9.out]
  clear x0 x1 x2 x3 x4 x5 x6 x7 x8 x9 y0 y1 y2 y3 y4 y5 y6 y7 y8 y9 yf hYl hGl
  obtain ⟨x0, x1, x2, x3, x4, x5, x6, x7, x8, x9⟩ := hx9'.all
  obtain ⟨y0, y1, y2, y3, y4, y5, y6, y7, y8, y9⟩ := hy9.all
  go_wp2_with fail
  with_reducible refine HS.out.mono ?_
  rintro e w10 ⟨rfl, hb10⟩
  have hx10 := hx9'.below hb10
  have u9 := hx10.c9
  have HB10 := Lib.hid (HB9.out.trans (hb10.mono HB9.out.size))
  clear x0 x1 x2 x3 x4 x5 x6 x7 x8 x9 y0 y1 y2 y3 y4 y5 y6 y7 y8 y9 hb10 hx10 hx9' hy9
  rcases HWAY.out with ⟨q1, q2⟩ | ⟨q1, q2⟩
  all_goals
    go_wp2
    go_ret
    exact ⟨rfl, HB10.out⟩
theorem times_walk (A : Option Addr) (n c : Nat) (m : Cm) (x : Nat) (w : World) (h : CAt w A n m) (hx : x < 18446744073709551616) : Calls Try.prog 8 #[cmV A n c m, .int .u64 (x : Int)] w fun e w' => e = .returned (.bool true) ∧ Below w.heap.size w w' := by
  cases hm : mayB m
  · exact times_no A n c m x w h hm
  · exact times_yes A n c m x w h hx hm
end Go.Proofs.Ytoehjijnkbmgmaa.LawF
