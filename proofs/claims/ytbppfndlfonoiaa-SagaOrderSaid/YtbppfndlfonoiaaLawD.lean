/- The walk of the statement that a saga ends just with the doings and takings back that its end says. -/
import Derived.Test.YtbppfndlfonoiaaInv
import Derived.Test.YtbppfndlfonoiaaPlnWalkB
set_option linter.unusedVariables false
set_option linter.unusedSimpArgs false
namespace Go.Proofs.Ytbppfndlfonoiaa.LawD
open Go.RowKit Go.Proofs.Ytbppfndlfonoiaa.Kit Go.Proofs.Ytbppfndlfonoiaa.Stq Go.Proofs.Ytbppfndlfonoiaa.Pln Go.Proofs.Ytbppfndlfonoiaa.Sag Go.Proofs.Ytbppfndlfonoiaa.SagAt Go.Proofs.Ytbppfndlfonoiaa.Ways Go.Proofs.Ytbppfndlfonoiaa.WalkA Go.Proofs.Ytbppfndlfonoiaa.WalkB Go.Proofs.Ytbppfndlfonoiaa.WalkC Go.Proofs.Ytbppfndlfonoiaa.WalkD Go.Proofs.Ytbppfndlfonoiaa.NewS Go.Proofs.Ytbppfndlfonoiaa.Begun Go.Proofs.Ytbppfndlfonoiaa.Opens Go.Proofs.Ytbppfndlfonoiaa.Opn Go.Proofs.Ytbppfndlfonoiaa.Lit Go.Proofs.Ytbppfndlfonoiaa.Inv Go.Proofs.Ytbppfndlfonoiaa.LawA Go.Proofs.Ytbppfndlfonoiaa.LawB
open Go.Proofs.Ytbppfndlfonoiaa.PlnWalkB (rcheck_any)
open Go.Proofs.Ytbppfndlfonoiaa.State (Only cell_at free_at lt_at)

/-- The variable, and beside it what it was and the call at hand. -/
structure LS (w1 W : World) (p q : Nat) (A : Option Addr) (c : Nat) (s : Sg) (B : Option Addr) (k : Nat) (o : Sg) (x : Cl) : Prop where
  sb : SB w1 W p A c s
  wb : Box4 W (q + 1) (.slice B o.l.length k) (.int .i64 o.st) (.int .i64 o.cu) (.int .i64 o.fa)
  wa : At W B o.l
  cb : BoxC W q x
  nb : 0 < o.l.length → ∀ ad, B = some ad → ad.block ≠ p
  lt : p < q
section
variable {w1 W W' : World} {p q : Nat} {A A' B : Option Addr} {c c' k : Nat} {s s' o : Sg} {x : Cl}
theorem LS.below (h : LS w1 W p q A c s B k o x) (b : Below W.heap.size W W') : LS w1 W' p q A c s B k o x := ⟨h.sb.below b, h.wb.below b, h.wa.below b, h.cb.below b, h.nb, h.lt⟩
theorem ls_new (h : SB w1 W p A c s) (x : Cl) :
    LS w1 ((W.alloc (.cells #[.int .i64 x.sp, .bool x.tk, .int .i64 x.tr, .bool x.ok] 26)).alloc (.cells #[.slice A s.l.length c, .int .i64 s.st, .int .i64 s.cu, .int .i64 s.fa] 24)) p W.heap.size A c s A c s x := by
  have hb := bo2 W (.cells #[.int .i64 x.sp, .bool x.tk, .int .i64 x.tr, .bool x.ok] 26) (.cells #[.slice A s.l.length c, .int .i64 s.st, .int .i64 s.cu, .int .i64 s.fa] 24)
  have h1 := heap_alloc_new W (.cells #[.int .i64 x.sp, .bool x.tk, .int .i64 x.tr, .bool x.ok] 26)
  have h2 := Box4.new (W.alloc (.cells #[.int .i64 x.sp, .bool x.tk, .int .i64 x.tr, .bool x.ok] 26)) (.slice A s.l.length c) (.int .i64 s.st) (.int .i64 s.cu) (.int .i64 s.fa)
  rw [show (W.alloc (.cells #[.int .i64 x.sp, .bool x.tk, .int .i64 x.tr, .bool x.ok] 26)).heap.size = W.heap.size + 1 by simp] at h2
  exact ⟨h.below hb, h2, h.at_.below hb, (BoxC.mk h1).below (bo1 _ _), h.ne, h.box.lt⟩
theorem LS.put (h : LS w1 W p q A c s B k o x) (b : Below W.heap.size W W') (ha : At W' A' s'.l) (hf : Fresh W.heap.size A' s'.l.length) :
    ∃ w2, (((W'.setCell ⟨p, 0, none⟩ (.slice A' s'.l.length c')).setCell ⟨p, 1, none⟩ (.int .i64 s'.st)).setCell ⟨p, 2, none⟩ (.int .i64 s'.cu)).setCell ⟨p, 3, none⟩ (.int .i64 s'.fa) = w2 ∧ LS w1 w2 p q A' c' s' B k o x := by
  obtain ⟨w2, e, h2⟩ := h.sb.put (c' := c') b ha hf
  have hs := ((h.sb.box.below b).set (.slice A' s'.l.length c') (.int .i64 s'.st) (.int .i64 s'.cu) (.int .i64 s'.fa)).2
  rw [e] at hs
  have hb := h.below b
  have hlt := h.lt
  refine ⟨w2, e, h2, hb.wb.keep hs (by omega), hb.wa.only hs fun hn ad e => h.nb hn ad e, ⟨(hs.block q hb.cb.lt (by omega)).trans hb.cb.blk⟩, h.nb, hlt⟩
end

set_option maxRecDepth 100000 in
set_option maxHeartbeats 16000000 in
theorem order_walk (A : Option Addr) (c : Nat) (l : List Sp) (C : Option Addr) (m cc : Nat) (L : List Cl) (w : World) (h : CameS w A l.length c l) (hr : l.length * 32 ≤ 140737488355328) (hL : RC w w.heap.size C m L) (hm : m ≤ 9223372036854775807) (hi : ∀ e ∈ L, InC e) :
    Calls Try.prog 4 #[.slice A l.length c, .slice C m cc] w fun e w' => e = .returned (.bool true) ∧ Below w.heap.size w w' := by
  have hat := came_at h hr
  rcases chk_or l with hc | hc
  · have HC := Lib.hid hc
    have HAT := Lib.hid hat
    have HL := Lib.hid hL
    have hl64 := (len_def hc).2
    have hl64' : (l.length : Int) ≤ 64 := by omega
    clear h hat hc hL hi
    go_enter Try.func4, Try.ntmps4
    go_wp2_with fail
    refine (begun_true _).mono ?_
    rintro e w1 ⟨rfl, hb1⟩
    have ha1 := HAT.out.below hb1
    have HB1 := Lib.hid hb1
    clear hb1
    go_wp2_with fail
    with_reducible refine (new_yes c ha1 HC).mono ?_
    rintro e w2 ⟨A2, k2, rfl, ha2, hf2, hb2⟩
    have hs2 : SB w1 (w2.alloc (.cells #[.slice A2 l.length k2, .int .i64 1, .int .i64 0, .int .i64 0] 24)) w2.heap.size A2 k2 ⟨l, 1, 0, 0⟩ := sb_new (s := ⟨l, 1, 0, 0⟩) hb2 ha2
    obtain ⟨w3, hw3⟩ : ∃ w3, w2.alloc (.cells #[.slice A2 l.length k2, .int .i64 1, .int .i64 0, .int .i64 0] 24) = w3 := ⟨_, rfl⟩
    obtain ⟨p, hp⟩ : ∃ p, w2.heap.size = p := ⟨_, rfl⟩
    rw [hw3] at hs2
    rw [hp] at hs2
    have ha3 := HAT.out.below (HB1.out.trans (hs2.bel.mono HB1.out.size))
    have HS3 := Lib.hid hs2
    have HW3 := Lib.hid hw3
    have HP := Lib.hid hp
    have HIV : Hid (Inv ⟨l, 1, 0, 0⟩ 0 (-1) false 0) := inv_fresh HC.out
    clear hs2 hw3 hp ha1 ha2 hf2 hb2
    go_wp2_with fail
    rw [HW3.out]
    try rw [HP.out]
    with_reducible refine (rcheck_any ha3.rs ha3.few ha3.nm HC).mono ?_
    rintro e w4 ⟨rfl, hb4⟩
    have HS4 := Lib.hid (HS3.out.below hb4)
    clear HW3 HP HS3 ha3 hb4
    go_wp2_with fail
    go_loopw [8, 9, 10, 11, 42] (fun sd su sa sf x wr => ∃ (j : Nat) (A3 : Option Addr) (k3 : Nat) (st cu fa d u : Int) (ab : Bool) (f : Int), x = .int .i64 (j : Int) ∧ j ≤ m ∧ sd = .int .i64 d ∧ su = .int .i64 u ∧ sa = .bool ab ∧ sf = .int .i64 f ∧ Hid (SB w1 wr p A3 k3 ⟨l, st, cu, fa⟩) ∧ Hid (Inv ⟨l, st, cu, fa⟩ d u ab f)) (fun _ _ _ _ x _ => m - (intOf x).toNat)
    case atStart => exact ⟨0, A2, k2, 1, 0, 0, 0, -1, false, 0, rfl, by omega, rfl, rfl, rfl, rfl, HS4, HIV⟩
    case round =>
      obtain ⟨j, A3, k3, st, cu, fa, d, u, ab, f, rfl, hjm, rfl, rfl, rfl, rfl, HS, HI⟩ := hrel
      clear HS4 HIV
      have t0 := HS.out.box.c0
      have t1 := HS.out.box.c1
      have t2 := HS.out.box.c2
      have t3 := HS.out.box.c3
      have tf0 := HS.out.box.free 0
      have tf1 := HS.out.box.free 1
      have tf2 := HS.out.box.free 2
      have tf3 := HS.out.box.free 3
      have tlt := HS.out.box.lt
      simp only at t0 t1 t2 t3
      by_cases hj : j < m
      · obtain ⟨bc, oc, x, hCC, hbc, hx, hfour⟩ := RC.at_ HL.out hj
        subst hCC
        have hf4 := hfour.below (HB1.out.trans (HS.out.bel.mono HB1.out.size)) hbc
        have e0 := hf4.c0
        have e1 := hf4.c1
        have e2 := hf4.c2
        have e3 := hf4.c3
        obtain ⟨sp, tk, tr, ok⟩ := x
        simp only at e0 e1 e2 e3
        have HJ : Hid (j + 1 ≤ m) := Lib.hid hj
        have hji : (j : Int) < (m : Int) := by omega
        have hjm63 : (j : Int) + 1 ≤ 9223372036854775807 := by omega
        clear hfour hf4 hx
        by_cases hk : (j : Int) = 1000
        · have hk' : ((j : Int) == 1000) = true := by simpa using hk
          clear hk t0 t1 t2 t3 tf0 tf1 tf2 tf3 tlt
          have hBW : Below w.heap.size w wr := HB1.out.trans (HS.out.bel.mono HB1.out.size)
          have t0 := HS.out.box.c0
          have t1 := HS.out.box.c1
          have t2 := HS.out.box.c2
          have t3 := HS.out.box.c3
          have tlt := HS.out.box.lt
          simp only at t0 t1 t2 t3
          obtain ⟨hsn, hin⟩ := HI.out
          have hsn2 := hsn.2
          rcases hin with ⟨rfl, rfl, rfl, rfl⟩ | ⟨rfl, rfl, rfl⟩ | ⟨rfl, rfl, rfl⟩ | ⟨rfl, rfl⟩ | ⟨rfl, rfl, rfl⟩
          · clear hsn hsn2 HI
            go_wp2
            go_ret
            exact ⟨rfl, hBW.trans ((bo1 _ _).mono hBW.size)⟩
          · clear hsn hsn2 HI
            go_wp2
            go_ret
            exact ⟨rfl, hBW.trans ((bo1 _ _).mono hBW.size)⟩
          · clear hsn hsn2 HI
            go_wp2
            go_ret
            exact ⟨rfl, hBW.trans ((bo1 _ _).mono hBW.size)⟩
          · clear hsn hsn2 HI
            go_wp2
            go_ret
            exact ⟨rfl, hBW.trans ((bo1 _ _).mono hBW.size)⟩
          · have hcu : (0 ≤ u ∧ u < (l.length : Int)) ∧ f = bud l u := by simp only at hsn2; omega
            obtain ⟨⟨hc0, hc1⟩, hfb⟩ := hcu
            obtain ⟨k, rfl⟩ := Int.eq_ofNat_of_zero_le hc0
            obtain ⟨bk, o, ev, rfl, hbl, hev, hthree⟩ := RS.at_ HAT.out.rs (show k < l.length by omega)
            have hbu := bud_at hev
            have u2 := (hthree.below hBW hbl).c2
            rw [hbu] at hfb
            obtain ⟨pt, nmx, bg⟩ := ev
            simp only at hfb u2
            subst hfb
            have hbl2 : bk < wr.heap.size := Nat.lt_of_lt_of_le hbl hBW.size
            clear hthree hev hbu hsn hsn2 HI
            go_wp2
            go_ret
            exact ⟨rfl, hBW.trans ((bo1 _ _).mono hBW.size)⟩
        · have hk' : ((j : Int) == 1000) = false := by simpa using hk
          have hls := ls_new HS.out ⟨sp, tk, tr, ok⟩
          obtain ⟨w4, hw4⟩ : ∃ W, (wr.alloc (.cells #[.int .i64 sp, .bool tk, .int .i64 tr, .bool ok] 26)).alloc (.cells #[.slice A3 l.length k3, .int .i64 st, .int .i64 cu, .int .i64 fa] 24) = W := ⟨_, rfl⟩
          simp only at hls
          rw [hw4] at hls
          have HLS := Lib.hid hls
          have HW4 := Lib.hid hw4
          obtain ⟨v, hv⟩ : ∃ v, ended ⟨l, st, cu, fa⟩ = v := ⟨_, rfl⟩
          have HVV := Lib.hid hv
          have hov : opn ⟨l, st, cu, fa⟩ = !v := by rw [snd_end HI.out.1, hv]
          have HOV := Lib.hid hov
          clear hk hls hw4 hv hov
          by_cases hsp : sp < 0
          · obtain ⟨⟨al, aS, aC, aF⟩, ha⟩ : ∃ t, abort ⟨l, st, cu, fa⟩ = t := ⟨_, rfl⟩
            have hal : al = l := by have := abort_l ⟨l, st, cu, fa⟩; rw [ha] at this; exact this
            obtain ⟨bq, hbq⟩ : ∃ b, aborts ⟨l, st, cu, fa⟩ = b := ⟨_, rfl⟩
            subst hal
            have HAB := Lib.hid ha
            have HBQ := Lib.hid hbq
            go_wp2_with fail
            rw [HW4.out]
            clear t0 t1 t2 t3 tf0 tf1 tf2 tf3 tlt e0 e1 e2 e3
            with_reducible refine (abort_lit k3 HLS.out.sb.at_ HAB HBQ).mono ?_
            rintro e w5 ⟨A5, k5, rfl, ha5, hf5, hb5⟩
            cases bq
            · have he : (⟨al, aS, aC, aF⟩ : Sg) = ⟨al, st, cu, fa⟩ := by rw [← ha]; unfold abort; rw [hbq]; rfl
              obtain ⟨rfl, rfl, rfl⟩ : st = aS ∧ cu = aC ∧ fa = aF := by
                simp only [Sg.mk.injEq, true_and] at he
                exact ⟨he.1.symm, he.2.1.symm, he.2.2.symm⟩
              clear ha hbq he
              obtain ⟨w6, hw6, h6⟩ := HLS.out.put (s' := ⟨al, st, cu, fa⟩) (c' := k5) hb5 ha5 hf5
              have h5 := HLS.out.below hb5
              have t0 := h5.sb.box.c0
              have t1 := h5.sb.box.c1
              have t2 := h5.sb.box.c2
              have t3 := h5.sb.box.c3
              have tf0 := h5.sb.box.free 0
              have tf1 := h5.sb.box.free 1
              have tf2 := h5.sb.box.free 2
              have tf3 := h5.sb.box.free 3
              have tlt := h5.sb.box.lt
              simp only at t0 t1 t2 t3
              have y0 := h5.cb.c0
              have y1 := h5.cb.c1
              have y2 := h5.cb.c2
              have y3 := h5.cb.c3
              have ylt := h5.cb.lt
              simp only at y0 y1 y2 y3
              have hltq := HLS.out.lt
              have hpq : ¬ p = wr.heap.size := by omega
              have hqp : ¬ wr.heap.size = p := by omega
              have HW6 : Hid ((((w5.setCell ⟨p, 0, none⟩ (.slice A5 al.length k5)).setCell ⟨p, 1, none⟩ (.int .i64 st)).setCell ⟨p, 2, none⟩ (.int .i64 cu)).setCell ⟨p, 3, none⟩ (.int .i64 fa) = w6) := hw6
              have HL6 := Lib.hid h6
              have HIN := Lib.hid HI.out
              have HSN := Lib.hid (sound_mk HIN.out.1)
              clear hw6 h6 h5 ha5 hf5 hb5
              go_wp2_with fail
              rw [HW6.out]
              clear t0 t1 t2 t3 tf0 tf1 tf2 tf3 tlt y0 y1 y2 y3 ylt
              with_reducible refine (sound_lit k5 HL6.out.sb.at_ HSN).mono ?_
              rintro e w7 ⟨rfl, hb7⟩
              have h7 := HL6.out.below hb7
              have z0 := h7.wb.c0
              have z1 := h7.wb.c1
              have z2 := h7.wb.c2
              have z3 := h7.wb.c3
              have zlt := h7.wb.lt
              simp only at z0 z1 z2 z3
              have HL7 := Lib.hid h7
              clear h7 hb7
              go_wp2_with fail
              with_reducible refine (ended_lit k3 A3 al.length w7 HVV rfl).mono ?_
              rintro e w8 ⟨rfl, hb8⟩
              have HL8 := Lib.hid (HL7.out.below hb8)
              clear hb8 z0 z1 z2 z3 zlt
              cases v
              · go_wp2
                go_roundw
                case rel => exact ⟨j + 1, A5, k5, st, cu, fa, d, u, ab, f, by go_num, HJ.out, rfl, rfl, rfl, rfl, Lib.hid HL8.out.sb, HIN⟩
                case measure => have := HJ.out; simp [intOf]; omega
              · have h8 := HL8.out
                have t0 := h8.sb.box.c0
                have t1 := h8.sb.box.c1
                have t2 := h8.sb.box.c2
                have t3 := h8.sb.box.c3
                have tlt := h8.sb.box.lt
                simp only at t0 t1 t2 t3
                have z0 := h8.wb.c0
                have z1 := h8.wb.c1
                have z2 := h8.wb.c2
                have z3 := h8.wb.c3
                have zlt := h8.wb.lt
                simp only at z0 z1 z2 z3
                clear h8
                go_wp2_with fail
                with_reducible refine (rsame_lit (b := true) k5 k3 HL8.out.sb.at_ HL8.out.wa (by simp)).mono ?_
                rintro e w9 ⟨rfl, hb9⟩
                have HL9 := Lib.hid (HL8.out.below hb9)
                clear hb9 t0 t1 t2 t3 tlt z0 z1 z2 z3 zlt
                go_wp2
                go_roundw
                case rel => exact ⟨j + 1, A5, k5, st, cu, fa, d, u, ab, f, by go_num, HJ.out, rfl, rfl, rfl, rfl, Lib.hid HL9.out.sb, HIN⟩
                case measure => have := HJ.out; simp [intOf]; omega
            · have hinv := inv_abort HI.out hbq
              rw [ha] at hinv
              have hvf : v = false := by
                have h1 := HOV.out
                have h2 := aborts_yes hbq
                have h3 : opn ⟨al, st, cu, fa⟩ = true := by
                  unfold opn
                  rw [sound_mk h2.1, h2.2.1]
                  rfl
                rw [h3] at h1
                cases v
                · rfl
                · cases h1
              subst hvf
              clear ha hbq
              obtain ⟨w6, hw6, h6⟩ := HLS.out.put (s' := ⟨al, aS, aC, aF⟩) (c' := k5) hb5 ha5 hf5
              have h5 := HLS.out.below hb5
              have t0 := h5.sb.box.c0
              have t1 := h5.sb.box.c1
              have t2 := h5.sb.box.c2
              have t3 := h5.sb.box.c3
              have tf0 := h5.sb.box.free 0
              have tf1 := h5.sb.box.free 1
              have tf2 := h5.sb.box.free 2
              have tf3 := h5.sb.box.free 3
              have tlt := h5.sb.box.lt
              simp only at t0 t1 t2 t3
              have y0 := h5.cb.c0
              have y1 := h5.cb.c1
              have y2 := h5.cb.c2
              have y3 := h5.cb.c3
              have ylt := h5.cb.lt
              simp only at y0 y1 y2 y3
              have hltq := HLS.out.lt
              have hpq : ¬ p = wr.heap.size := by omega
              have hqp : ¬ wr.heap.size = p := by omega
              have HW6 : Hid ((((w5.setCell ⟨p, 0, none⟩ (.slice A5 al.length k5)).setCell ⟨p, 1, none⟩ (.int .i64 aS)).setCell ⟨p, 2, none⟩ (.int .i64 aC)).setCell ⟨p, 3, none⟩ (.int .i64 aF) = w6) := hw6
              have HL6 := Lib.hid h6
              have HIN := Lib.hid hinv
              have HSN := Lib.hid (sound_mk HIN.out.1)
              clear hw6 h6 h5 ha5 hf5 hb5
              go_wp2_with fail
              rw [HW6.out]
              clear t0 t1 t2 t3 tf0 tf1 tf2 tf3 tlt y0 y1 y2 y3 ylt
              with_reducible refine (sound_lit k5 HL6.out.sb.at_ HSN).mono ?_
              rintro e w7 ⟨rfl, hb7⟩
              have h7 := HL6.out.below hb7
              have z0 := h7.wb.c0
              have z1 := h7.wb.c1
              have z2 := h7.wb.c2
              have z3 := h7.wb.c3
              have zlt := h7.wb.lt
              simp only at z0 z1 z2 z3
              have HL7 := Lib.hid h7
              clear h7 hb7
              go_wp2_with fail
              with_reducible refine (ended_lit k3 A3 al.length w7 HVV rfl).mono ?_
              rintro e w8 ⟨rfl, hb8⟩
              have HL8 := Lib.hid (HL7.out.below hb8)
              clear hb8 z0 z1 z2 z3 zlt
              go_wp2
              go_roundw
              case rel => exact ⟨j + 1, A5, k5, aS, aC, aF, d, d, true, f, by go_num, HJ.out, rfl, rfl, rfl, rfl, Lib.hid HL8.out.sb, HIN⟩
              case measure => have := HJ.out; simp [intOf]; omega
          · obtain ⟨q, hq⟩ : ∃ q, wantC ⟨l, st, cu, fa⟩ = q := ⟨_, rfl⟩
            obtain ⟨y, hy⟩ : ∃ y, wantB ⟨l, st, cu, fa⟩ = y := ⟨_, rfl⟩
            have HQ := Lib.hid hq
            have HY := Lib.hid hy
            go_wp2_with fail
            rw [HW4.out]
            clear t0 t1 t2 t3 tf0 tf1 tf2 tf3 tlt e0 e1 e2 e3
            with_reducible refine (wants_lit k3 HLS.out.sb.at_ HQ HY HOV).mono ?_
            rintro e w4' ⟨rfl, hb4'⟩
            have HLS' := HLS
            clear HLS
            have HLS := Lib.hid (HLS'.out.below hb4')
            have h4 := HLS.out
            have t0 := h4.sb.box.c0
            have t1 := h4.sb.box.c1
            have t2 := h4.sb.box.c2
            have t3 := h4.sb.box.c3
            have tf0 := h4.sb.box.free 0
            have tf1 := h4.sb.box.free 1
            have tf2 := h4.sb.box.free 2
            have tf3 := h4.sb.box.free 3
            have tlt := h4.sb.box.lt
            simp only at t0 t1 t2 t3
            have y0 := h4.cb.c0
            have y1 := h4.cb.c1
            have y2 := h4.cb.c2
            have y3 := h4.cb.c3
            have ylt := h4.cb.lt
            simp only at y0 y1 y2 y3
            clear h4 hb4' HLS' HW4
            cases v
            · have hqc : q = cu := by rw [← hq]; unfold wantC; rw [HOV.out]; rfl
              subst hqc
              obtain ⟨tt, htt⟩ : ∃ t, takes ⟨l, st, q, fa⟩ q y tr ok = t := ⟨_, rfl⟩
              obtain ⟨⟨nl, ns, nc, nf⟩, hn⟩ : ∃ t, outc ⟨l, st, q, fa⟩ q y tr ok = t := ⟨_, rfl⟩
              have hnl : nl = l := by have := outc_l ⟨l, st, q, fa⟩ q y tr ok; rw [hn] at this; exact this
              subst hnl
              have hfive := five (s := ⟨nl, st, q, fa⟩) HOV.out tr ok hy htt hn
              have HTT := Lib.hid htt
              have HNN := Lib.hid hn
              have HFI := Lib.hid hfive
              clear hq hy htt hn hfive
              go_wp2_with fail
              clear t0 t1 t2 t3 tf0 tf1 tf2 tf3 tlt y0 y1 y2 y3 ylt
              with_reducible refine (outcome_lit k3 HLS.out.sb.at_ q y tr ok HNN HTT).mono ?_
              rintro e w5 ⟨A5, k5, rfl, ha5, hf5, hb5⟩
              rcases HFI.out with ⟨rfl, he⟩ | ⟨rfl, ⟨rfl, hst, rfl, he⟩ | ⟨rfl, hst, rfl, he⟩ | ⟨rfl, hst, rfl, he⟩ | ⟨rfl, hst, rfl, he⟩⟩
              · obtain ⟨rfl, rfl, rfl⟩ : st = ns ∧ q = nc ∧ fa = nf := by
                  simp only [Sg.mk.injEq, true_and] at he
                  exact ⟨he.1.symm, he.2.1.symm, he.2.2.symm⟩
                clear he HFI
                obtain ⟨w6, hw6, h6⟩ := HLS.out.put (s' := ⟨nl, st, q, fa⟩) (c' := k5) hb5 ha5 hf5
                have h5 := HLS.out.below hb5
                have t0 := h5.sb.box.c0
                have t1 := h5.sb.box.c1
                have t2 := h5.sb.box.c2
                have t3 := h5.sb.box.c3
                have tf0 := h5.sb.box.free 0
                have tf1 := h5.sb.box.free 1
                have tf2 := h5.sb.box.free 2
                have tf3 := h5.sb.box.free 3
                have tlt := h5.sb.box.lt
                simp only at t0 t1 t2 t3
                have y0 := h5.cb.c0
                have y1 := h5.cb.c1
                have y2 := h5.cb.c2
                have y3 := h5.cb.c3
                have ylt := h5.cb.lt
                simp only at y0 y1 y2 y3
                have hltq := HLS.out.lt
                have hpq : ¬ p = wr.heap.size := by omega
                have hqp : ¬ wr.heap.size = p := by omega
                have HW6 : Hid ((((w5.setCell ⟨p, 0, none⟩ (.slice A5 nl.length k5)).setCell ⟨p, 1, none⟩ (.int .i64 st)).setCell ⟨p, 2, none⟩ (.int .i64 q)).setCell ⟨p, 3, none⟩ (.int .i64 fa) = w6) := hw6
                have HL6 := Lib.hid h6
                have HIN := Lib.hid HI.out
                have HSN := Lib.hid (sound_mk HIN.out.1)
                clear hw6 h6 h5 ha5 hf5 hb5
                go_wp2_with fail
                rw [HW6.out]
                clear t0 t1 t2 t3 tf0 tf1 tf2 tf3 tlt y0 y1 y2 y3 ylt
                with_reducible refine (sound_lit k5 HL6.out.sb.at_ HSN).mono ?_
                rintro e w7 ⟨rfl, hb7⟩
                have h7 := HL6.out.below hb7
                have z0 := h7.wb.c0
                have z1 := h7.wb.c1
                have z2 := h7.wb.c2
                have z3 := h7.wb.c3
                have zlt := h7.wb.lt
                simp only at z0 z1 z2 z3
                have HL7 := Lib.hid h7
                clear h7 hb7
                go_wp2_with fail
                with_reducible refine (ended_lit k3 A3 nl.length w7 HVV rfl).mono ?_
                rintro e w8 ⟨rfl, hb8⟩
                have HL8 := Lib.hid (HL7.out.below hb8)
                clear hb8 z0 z1 z2 z3 zlt
                go_wp2
                go_roundw
                case rel => exact ⟨j + 1, A5, k5, st, q, fa, d, u, ab, f, by go_num, HJ.out, rfl, rfl, rfl, rfl, Lib.hid HL8.out.sb, HIN⟩
                case measure => have := HJ.out; simp [intOf]; omega
              · have hinv := inv_done HI.out HOV.out hst
                rw [← he] at hinv
                obtain ⟨hinv, hd0, hd1⟩ := hinv
                clear he HFI hst
                obtain ⟨w6, hw6, h6⟩ := HLS.out.put (s' := ⟨nl, ns, nc, nf⟩) (c' := k5) hb5 ha5 hf5
                have h5 := HLS.out.below hb5
                have t0 := h5.sb.box.c0
                have t1 := h5.sb.box.c1
                have t2 := h5.sb.box.c2
                have t3 := h5.sb.box.c3
                have tf0 := h5.sb.box.free 0
                have tf1 := h5.sb.box.free 1
                have tf2 := h5.sb.box.free 2
                have tf3 := h5.sb.box.free 3
                have tlt := h5.sb.box.lt
                simp only at t0 t1 t2 t3
                have y0 := h5.cb.c0
                have y1 := h5.cb.c1
                have y2 := h5.cb.c2
                have y3 := h5.cb.c3
                have ylt := h5.cb.lt
                simp only at y0 y1 y2 y3
                have hltq := HLS.out.lt
                have hpq : ¬ p = wr.heap.size := by omega
                have hqp : ¬ wr.heap.size = p := by omega
                have HW6 : Hid ((((w5.setCell ⟨p, 0, none⟩ (.slice A5 nl.length k5)).setCell ⟨p, 1, none⟩ (.int .i64 ns)).setCell ⟨p, 2, none⟩ (.int .i64 nc)).setCell ⟨p, 3, none⟩ (.int .i64 nf) = w6) := hw6
                have HL6 := Lib.hid h6
                have HIN := Lib.hid hinv
                have HSN := Lib.hid (sound_mk HIN.out.1)
                clear hw6 h6 h5 ha5 hf5 hb5
                go_wp2_with fail
                rw [HW6.out]
                clear t0 t1 t2 t3 tf0 tf1 tf2 tf3 tlt y0 y1 y2 y3 ylt
                with_reducible refine (sound_lit k5 HL6.out.sb.at_ HSN).mono ?_
                rintro e w7 ⟨rfl, hb7⟩
                have h7 := HL6.out.below hb7
                have z0 := h7.wb.c0
                have z1 := h7.wb.c1
                have z2 := h7.wb.c2
                have z3 := h7.wb.c3
                have zlt := h7.wb.lt
                simp only at z0 z1 z2 z3
                have HL7 := Lib.hid h7
                clear h7 hb7
                go_wp2_with fail
                with_reducible refine (ended_lit k3 A3 nl.length w7 HVV rfl).mono ?_
                rintro e w8 ⟨rfl, hb8⟩
                have HL8 := Lib.hid (HL7.out.below hb8)
                clear hb8 z0 z1 z2 z3 zlt
                go_wp2
                go_roundw
                case rel => exact ⟨j + 1, A5, k5, ns, nc, nf, (d + 1), u, ab, f, by go_num, HJ.out, rfl, rfl, rfl, rfl, Lib.hid HL8.out.sb, HIN⟩
                case measure => have := HJ.out; simp [intOf]; omega
              · have hinv := inv_fail HI.out HOV.out hst
                rw [← he] at hinv
                obtain ⟨hinv, hd0, hd1⟩ := hinv
                clear he HFI hst
                obtain ⟨w6, hw6, h6⟩ := HLS.out.put (s' := ⟨nl, ns, nc, nf⟩) (c' := k5) hb5 ha5 hf5
                have h5 := HLS.out.below hb5
                have t0 := h5.sb.box.c0
                have t1 := h5.sb.box.c1
                have t2 := h5.sb.box.c2
                have t3 := h5.sb.box.c3
                have tf0 := h5.sb.box.free 0
                have tf1 := h5.sb.box.free 1
                have tf2 := h5.sb.box.free 2
                have tf3 := h5.sb.box.free 3
                have tlt := h5.sb.box.lt
                simp only at t0 t1 t2 t3
                have y0 := h5.cb.c0
                have y1 := h5.cb.c1
                have y2 := h5.cb.c2
                have y3 := h5.cb.c3
                have ylt := h5.cb.lt
                simp only at y0 y1 y2 y3
                have hltq := HLS.out.lt
                have hpq : ¬ p = wr.heap.size := by omega
                have hqp : ¬ wr.heap.size = p := by omega
                have HW6 : Hid ((((w5.setCell ⟨p, 0, none⟩ (.slice A5 nl.length k5)).setCell ⟨p, 1, none⟩ (.int .i64 ns)).setCell ⟨p, 2, none⟩ (.int .i64 nc)).setCell ⟨p, 3, none⟩ (.int .i64 nf) = w6) := hw6
                have HL6 := Lib.hid h6
                have HIN := Lib.hid hinv
                have HSN := Lib.hid (sound_mk HIN.out.1)
                clear hw6 h6 h5 ha5 hf5 hb5
                go_wp2_with fail
                rw [HW6.out]
                clear t0 t1 t2 t3 tf0 tf1 tf2 tf3 tlt y0 y1 y2 y3 ylt
                with_reducible refine (sound_lit k5 HL6.out.sb.at_ HSN).mono ?_
                rintro e w7 ⟨rfl, hb7⟩
                have h7 := HL6.out.below hb7
                have z0 := h7.wb.c0
                have z1 := h7.wb.c1
                have z2 := h7.wb.c2
                have z3 := h7.wb.c3
                have zlt := h7.wb.lt
                simp only at z0 z1 z2 z3
                have HL7 := Lib.hid h7
                clear h7 hb7
                go_wp2_with fail
                with_reducible refine (ended_lit k3 A3 nl.length w7 HVV rfl).mono ?_
                rintro e w8 ⟨rfl, hb8⟩
                have HL8 := Lib.hid (HL7.out.below hb8)
                clear hb8 z0 z1 z2 z3 zlt
                go_wp2
                go_roundw
                case rel => exact ⟨j + 1, A5, k5, ns, nc, nf, d, (d - 1), ab, f, by go_num, HJ.out, rfl, rfl, rfl, rfl, Lib.hid HL8.out.sb, HIN⟩
                case measure => have := HJ.out; simp [intOf]; omega
              · have hinv := inv_back HI.out HOV.out hst
                rw [← he] at hinv
                obtain ⟨hinv, hd0, hd1⟩ := hinv
                clear he HFI hst
                obtain ⟨w6, hw6, h6⟩ := HLS.out.put (s' := ⟨nl, ns, nc, nf⟩) (c' := k5) hb5 ha5 hf5
                have h5 := HLS.out.below hb5
                have t0 := h5.sb.box.c0
                have t1 := h5.sb.box.c1
                have t2 := h5.sb.box.c2
                have t3 := h5.sb.box.c3
                have tf0 := h5.sb.box.free 0
                have tf1 := h5.sb.box.free 1
                have tf2 := h5.sb.box.free 2
                have tf3 := h5.sb.box.free 3
                have tlt := h5.sb.box.lt
                simp only at t0 t1 t2 t3
                have y0 := h5.cb.c0
                have y1 := h5.cb.c1
                have y2 := h5.cb.c2
                have y3 := h5.cb.c3
                have ylt := h5.cb.lt
                simp only at y0 y1 y2 y3
                have hltq := HLS.out.lt
                have hpq : ¬ p = wr.heap.size := by omega
                have hqp : ¬ wr.heap.size = p := by omega
                have HW6 : Hid ((((w5.setCell ⟨p, 0, none⟩ (.slice A5 nl.length k5)).setCell ⟨p, 1, none⟩ (.int .i64 ns)).setCell ⟨p, 2, none⟩ (.int .i64 nc)).setCell ⟨p, 3, none⟩ (.int .i64 nf) = w6) := hw6
                have HL6 := Lib.hid h6
                have HIN := Lib.hid hinv
                have HSN := Lib.hid (sound_mk HIN.out.1)
                clear hw6 h6 h5 ha5 hf5 hb5
                go_wp2_with fail
                rw [HW6.out]
                clear t0 t1 t2 t3 tf0 tf1 tf2 tf3 tlt y0 y1 y2 y3 ylt
                with_reducible refine (sound_lit k5 HL6.out.sb.at_ HSN).mono ?_
                rintro e w7 ⟨rfl, hb7⟩
                have h7 := HL6.out.below hb7
                have z0 := h7.wb.c0
                have z1 := h7.wb.c1
                have z2 := h7.wb.c2
                have z3 := h7.wb.c3
                have zlt := h7.wb.lt
                simp only at z0 z1 z2 z3
                have HL7 := Lib.hid h7
                clear h7 hb7
                go_wp2_with fail
                with_reducible refine (ended_lit k3 A3 nl.length w7 HVV rfl).mono ?_
                rintro e w8 ⟨rfl, hb8⟩
                have HL8 := Lib.hid (HL7.out.below hb8)
                clear hb8 z0 z1 z2 z3 zlt
                go_wp2
                go_roundw
                case rel => exact ⟨j + 1, A5, k5, ns, nc, nf, d, (u - 1), ab, 0, by go_num, HJ.out, rfl, rfl, rfl, rfl, Lib.hid HL8.out.sb, HIN⟩
                case measure => have := HJ.out; simp [intOf]; omega
              · have hinv := inv_again HI.out HOV.out hst
                rw [← he] at hinv
                obtain ⟨hinv, hd0, hd1⟩ := hinv
                clear he HFI hst
                obtain ⟨w6, hw6, h6⟩ := HLS.out.put (s' := ⟨nl, ns, nc, nf⟩) (c' := k5) hb5 ha5 hf5
                have h5 := HLS.out.below hb5
                have t0 := h5.sb.box.c0
                have t1 := h5.sb.box.c1
                have t2 := h5.sb.box.c2
                have t3 := h5.sb.box.c3
                have tf0 := h5.sb.box.free 0
                have tf1 := h5.sb.box.free 1
                have tf2 := h5.sb.box.free 2
                have tf3 := h5.sb.box.free 3
                have tlt := h5.sb.box.lt
                simp only at t0 t1 t2 t3
                have y0 := h5.cb.c0
                have y1 := h5.cb.c1
                have y2 := h5.cb.c2
                have y3 := h5.cb.c3
                have ylt := h5.cb.lt
                simp only at y0 y1 y2 y3
                have hltq := HLS.out.lt
                have hpq : ¬ p = wr.heap.size := by omega
                have hqp : ¬ wr.heap.size = p := by omega
                have HW6 : Hid ((((w5.setCell ⟨p, 0, none⟩ (.slice A5 nl.length k5)).setCell ⟨p, 1, none⟩ (.int .i64 ns)).setCell ⟨p, 2, none⟩ (.int .i64 nc)).setCell ⟨p, 3, none⟩ (.int .i64 nf) = w6) := hw6
                have HL6 := Lib.hid h6
                have HIN := Lib.hid hinv
                have HSN := Lib.hid (sound_mk HIN.out.1)
                clear hw6 h6 h5 ha5 hf5 hb5
                go_wp2_with fail
                rw [HW6.out]
                clear t0 t1 t2 t3 tf0 tf1 tf2 tf3 tlt y0 y1 y2 y3 ylt
                with_reducible refine (sound_lit k5 HL6.out.sb.at_ HSN).mono ?_
                rintro e w7 ⟨rfl, hb7⟩
                have h7 := HL6.out.below hb7
                have z0 := h7.wb.c0
                have z1 := h7.wb.c1
                have z2 := h7.wb.c2
                have z3 := h7.wb.c3
                have zlt := h7.wb.lt
                simp only at z0 z1 z2 z3
                have HL7 := Lib.hid h7
                clear h7 hb7
                go_wp2_with fail
                with_reducible refine (ended_lit k3 A3 nl.length w7 HVV rfl).mono ?_
                rintro e w8 ⟨rfl, hb8⟩
                have HL8 := Lib.hid (HL7.out.below hb8)
                clear hb8 z0 z1 z2 z3 zlt
                go_wp2
                go_roundw
                case rel => exact ⟨j + 1, A5, k5, ns, nc, nf, d, u, ab, (f + 1), by go_num, HJ.out, rfl, rfl, rfl, rfl, Lib.hid HL8.out.sb, HIN⟩
                case measure => have := HJ.out; simp [intOf]; omega
            · have hyf : y = false := by rw [← hy]; unfold wantB; rw [HOV.out]; rfl
              subst hyf
              have htt : takes ⟨l, st, cu, fa⟩ sp false tr ok = false := by unfold takes; rw [HOV.out]; rfl
              have HTT := Lib.hid htt
              have HNN := Lib.hid (outc_no htt)
              clear hq hy htt
              go_wp2_with fail
              clear t0 t1 t2 t3 tf0 tf1 tf2 tf3 tlt y0 y1 y2 y3 ylt
              with_reducible refine (outcome_lit k3 HLS.out.sb.at_ sp false tr ok HNN HTT).mono ?_
              rintro e w5 ⟨A5, k5, rfl, ha5, hf5, hb5⟩
              obtain ⟨w6, hw6, h6⟩ := HLS.out.put (s' := ⟨l, st, cu, fa⟩) (c' := k5) hb5 ha5 hf5
              have h5 := HLS.out.below hb5
              have t0 := h5.sb.box.c0
              have t1 := h5.sb.box.c1
              have t2 := h5.sb.box.c2
              have t3 := h5.sb.box.c3
              have tf0 := h5.sb.box.free 0
              have tf1 := h5.sb.box.free 1
              have tf2 := h5.sb.box.free 2
              have tf3 := h5.sb.box.free 3
              have tlt := h5.sb.box.lt
              simp only at t0 t1 t2 t3
              have y0 := h5.cb.c0
              have y1 := h5.cb.c1
              have y2 := h5.cb.c2
              have y3 := h5.cb.c3
              have ylt := h5.cb.lt
              simp only at y0 y1 y2 y3
              have hltq := HLS.out.lt
              have hpq : ¬ p = wr.heap.size := by omega
              have hqp : ¬ wr.heap.size = p := by omega
              have HW6 : Hid ((((w5.setCell ⟨p, 0, none⟩ (.slice A5 l.length k5)).setCell ⟨p, 1, none⟩ (.int .i64 st)).setCell ⟨p, 2, none⟩ (.int .i64 cu)).setCell ⟨p, 3, none⟩ (.int .i64 fa) = w6) := hw6
              have HL6 := Lib.hid h6
              have HIN := Lib.hid HI.out
              have HSN := Lib.hid (sound_mk HIN.out.1)
              clear hw6 h6 h5 ha5 hf5 hb5
              go_wp2_with fail
              rw [HW6.out]
              clear t0 t1 t2 t3 tf0 tf1 tf2 tf3 tlt y0 y1 y2 y3 ylt
              with_reducible refine (sound_lit k5 HL6.out.sb.at_ HSN).mono ?_
              rintro e w7 ⟨rfl, hb7⟩
              have h7 := HL6.out.below hb7
              have z0 := h7.wb.c0
              have z1 := h7.wb.c1
              have z2 := h7.wb.c2
              have z3 := h7.wb.c3
              have zlt := h7.wb.lt
              simp only at z0 z1 z2 z3
              have HL7 := Lib.hid h7
              clear h7 hb7
              go_wp2_with fail
              with_reducible refine (ended_lit k3 A3 l.length w7 HVV rfl).mono ?_
              rintro e w8 ⟨rfl, hb8⟩
              have HL8 := Lib.hid (HL7.out.below hb8)
              clear hb8 z0 z1 z2 z3 zlt
              have h8 := HL8.out
              have t0 := h8.sb.box.c0
              have t1 := h8.sb.box.c1
              have t2 := h8.sb.box.c2
              have t3 := h8.sb.box.c3
              have tlt := h8.sb.box.lt
              simp only at t0 t1 t2 t3
              have z0 := h8.wb.c0
              have z1 := h8.wb.c1
              have z2 := h8.wb.c2
              have z3 := h8.wb.c3
              have zlt := h8.wb.lt
              simp only at z0 z1 z2 z3
              clear h8
              go_wp2_with fail
              with_reducible refine (rsame_lit (b := true) k5 k3 HL8.out.sb.at_ HL8.out.wa (by simp)).mono ?_
              rintro e w9 ⟨rfl, hb9⟩
              have HL9 := Lib.hid (HL8.out.below hb9)
              clear hb9 t0 t1 t2 t3 tlt z0 z1 z2 z3 zlt
              go_wp2
              go_roundw
              case rel => exact ⟨j + 1, A5, k5, st, cu, fa, d, u, ab, f, by go_num, HJ.out, rfl, rfl, rfl, rfl, Lib.hid HL9.out.sb, HIN⟩
              case measure => have := HJ.out; simp [intOf]; omega
      · obtain rfl : j = m := by omega
        clear hj hjm t0 t1 t2 t3 tf0 tf1 tf2 tf3 tlt
        have hBW : Below w.heap.size w wr := HB1.out.trans (HS.out.bel.mono HB1.out.size)
        have t0 := HS.out.box.c0
        have t1 := HS.out.box.c1
        have t2 := HS.out.box.c2
        have t3 := HS.out.box.c3
        have tlt := HS.out.box.lt
        simp only at t0 t1 t2 t3
        obtain ⟨hsn, hin⟩ := HI.out
        have hsn2 := hsn.2
        rcases hin with ⟨rfl, rfl, rfl, rfl⟩ | ⟨rfl, rfl, rfl⟩ | ⟨rfl, rfl, rfl⟩ | ⟨rfl, rfl⟩ | ⟨rfl, rfl, rfl⟩
        · clear hsn hsn2 HI
          go_wp2
          go_ret
          exact ⟨rfl, hBW⟩
        · clear hsn hsn2 HI
          go_wp2
          go_ret
          exact ⟨rfl, hBW⟩
        · clear hsn hsn2 HI
          go_wp2
          go_ret
          exact ⟨rfl, hBW⟩
        · clear hsn hsn2 HI
          go_wp2
          go_ret
          exact ⟨rfl, hBW⟩
        · have hcu : (0 ≤ u ∧ u < (l.length : Int)) ∧ f = bud l u := by simp only at hsn2; omega
          obtain ⟨⟨hc0, hc1⟩, hfb⟩ := hcu
          obtain ⟨k, rfl⟩ := Int.eq_ofNat_of_zero_le hc0
          obtain ⟨bk, o, ev, rfl, hbl, hev, hthree⟩ := RS.at_ HAT.out.rs (show k < l.length by omega)
          have hbu := bud_at hev
          have u2 := (hthree.below hBW hbl).c2
          rw [hbu] at hfb
          obtain ⟨pt, nmx, bg⟩ := ev
          simp only at hfb u2
          subst hfb
          have hbl2 : bk < wr.heap.size := Nat.lt_of_lt_of_le hbl hBW.size
          clear hthree hev hbu hsn hsn2 HI
          go_wp2
          go_ret
          exact ⟨rfl, hBW⟩
  · have HC := Lib.hid hc
    have HAT := Lib.hid hat
    clear h hat hc hL hi
    go_enter Try.func4, Try.ntmps4
    go_wp2_with fail
    refine (begun_true _).mono ?_
    rintro e w1 ⟨rfl, hb1⟩
    have ha1 := HAT.out.below hb1
    have HB1 := Lib.hid hb1
    clear hb1
    go_wp2_with fail
    with_reducible refine (new_no c ha1 HC).mono ?_
    rintro e w2 ⟨rfl, hb2⟩
    have hB := HB1.out.trans (hb2.mono HB1.out.size)
    have hB3 := hB.trans ((bo1 w2 (.cells #[.slice none 0 0, .int .i64 0, .int .i64 0, .int .i64 0] 24)).mono hB.size)
    have ha3 := HAT.out.below hB3
    obtain ⟨w3, hw3⟩ : ∃ w3, w2.alloc (.cells #[.slice none 0 0, .int .i64 0, .int .i64 0, .int .i64 0] 24) = w3 := ⟨_, rfl⟩
    rw [hw3] at ha3 hB3
    have HW3 := Lib.hid hw3
    clear hw3
    go_wp2_with fail
    rw [HW3.out]
    with_reducible refine (rcheck_any ha3.rs ha3.few ha3.nm HC).mono ?_
    rintro e w4 ⟨rfl, hb4⟩
    have ha4 := ha3.below hb4
    have hB4 := hB3.trans (hb4.mono hB3.size)
    go_wp2_with fail
    with_reducible refine (rcheck_any ha4.rs ha4.few ha4.nm HC).mono ?_
    rintro e w5 ⟨rfl, hb5⟩
    go_wp2
    go_ret
    exact ⟨rfl, hB4.trans (hb5.mono hB4.size)⟩
end Go.Proofs.Ytbppfndlfonoiaa.LawD
