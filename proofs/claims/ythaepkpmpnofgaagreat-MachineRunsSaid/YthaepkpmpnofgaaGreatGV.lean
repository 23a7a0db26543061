/- What the document's Apply answers, whatever the bytes. No statement is proved here. -/
import Derived.Test.YthaepkpmpnofgaaGreatGU
import Derived.Test.YthaepkpmpnofgaaGreatHAppS
import Derived.Deep.RegionHeld3
import Derived.Deep.CutRange
import Derived.StillTailTactics
import Derived.Test.YthaepkpmpnofgaaGreatHApF
import Derived.Test.YthaepkpmpnofgaaGreatHApH
import Derived.Test.YthaepkpmpnofgaaGreatHApI
set_option linter.unusedVariables false
set_option linter.unusedSimpArgs false
namespace Go.Proofs.YthaepkpmpnofgaaGreat.ApJ
open Go.RowKit Go.Proofs.YthaepkpmpnofgaaGreat.Kit Go.Proofs.YthaepkpmpnofgaaGreat.Stq Go.Proofs.YthaepkpmpnofgaaGreat.Pln Go.Proofs.YthaepkpmpnofgaaGreat.Sag Go.Proofs.YthaepkpmpnofgaaGreat.SagAt

theorem cloned {w w1 : World} {A' : Option Addr} {n c' : Nat} {l : List Sp} (hn : n = l.length) (hown : w1.ownsRow w.heap.size 67 3 (.slice A' (0 + n) c') (0 + n) ([] ++ scells l)) (hg : w.grownBy w1 none)
    (hroom : l.length * 32 ≤ 140737488355328) (hnm : ∀ e ∈ l, e.nm.size ≤ 9223372036854775807) : Below w.heap.size w w1 ∧ At w1 A' l ∧ Fresh w.heap.size A' l.length := by
  subst hn
  have hb1 : Below w.heap.size w w1 := (Below.refl _ w).grown hg (by simp) (by intro k hk; cases hk)
  rw [Nat.zero_add, List.nil_append] at hown
  obtain ⟨A2, c2, he2, hc1, hc2, hr2⟩ := own_form hown
  cases he2
  refine ⟨hb1, ⟨hr2, hroom, hnm⟩, fun hn ad' e => ?_⟩
  subst e
  rcases hown.2 with h0 | ⟨g, cap, cur, hv, h1, _, _⟩
  · cases h0.1
  · cases hv; exact h1
end Go.Proofs.YthaepkpmpnofgaaGreat.ApJ
namespace Go.Proofs.YthaepkpmpnofgaaGreat.ApJ
open Go.RowKit Go.Proofs.YthaepkpmpnofgaaGreat.Kit Go.Proofs.YthaepkpmpnofgaaGreat.Blocks Go.Proofs.YthaepkpmpnofgaaGreat.Ses Go.Proofs.YthaepkpmpnofgaaGreat.Rws Go.Proofs.YthaepkpmpnofgaaGreat.Boxs Go.Proofs.YthaepkpmpnofgaaGreat.Mch Go.Proofs.YthaepkpmpnofgaaGreat.MatD Go.Proofs.YthaepkpmpnofgaaGreat.PutD Go.Proofs.YthaepkpmpnofgaaGreat.SsnWalkA Go.Proofs.YthaepkpmpnofgaaGreat.ApD Go.Proofs.YthaepkpmpnofgaaGreat.ApE Go.Proofs.YthaepkpmpnofgaaGreat.ApG
open Go.Proofs.YthaepkpmpnofgaaGreat.Cmd (Cm)
open Go.Proofs.YthaepkpmpnofgaaGreat.CmdAt (Bx)
/-- A new saga was put. -/
theorem puts {B : Nat} {w0 W W' : World} {p P C D : Nat} {vR0 vI0 vS0 vR vI vS : Value} {m : Mc} {hs : List Hs} {A : Option Addr} {n c : Nat} {k : Cm} (x : Cx B w0 W p P C vR0 vI0 vS0 vR vI vS m hs A n c k) {id : Nat} {e : Hs} (q : Put B W p vR vI vS m hs id e W')
    (heP : 0 < e.s.l.length → ∀ ad, e.A = some ad → P < ad.block) (r : Clr w0 p P C vR vI vS hs A n D) (hD : D < W.heap.size) (heD : 0 < e.s.l.length → ∀ ad, e.A = some ad → ad.block ≠ D) :
    ∃ vI' vS' hs', Cx B w0 W' p P C vR0 vI0 vS0 vR vI' vS' ⟨m.t, putS m.l id e.s⟩ hs' A n c k ∧ Only (fun g => g = p) W W' ∧ Clr w0 p P C vR vI' vS' hs' A n D := by
  obtain ⟨vI', vS', hs', h1, h2, h3, h4, h5⟩ := q
  have hf : ∀ g, Own p vR vI' vS' g → Own p vR vI vS g ∨ W.heap.size ≤ g := fun g hg => by
    rcases hg with hg | hg | hg
    · exact .inl (.inl hg)
    · exact .inr (h3 g hg)
    · exact .inr (h4 g hg)
  refine ⟨vI', vS', hs', x.step h1 (h2.mono fun g _ hg => .inl (.inl hg)) hf (fun y hy hn ad e0 => ?_), h2, r.step hf hD (fun y hy hn ad e0 => ?_)⟩
  · rcases h5 y hy with rfl | hy
    · have h6 := heP hn ad e0; have h7 := x.lp; exact ⟨by omega, .inr (by omega)⟩
    · exact x.sp y hy hn ad e0
  · rcases h5 y hy with rfl | hy
    · exact heD hn ad e0
    · exact r.ns y hy hn ad e0
end Go.Proofs.YthaepkpmpnofgaaGreat.ApJ
set_option linter.unusedVariables false
set_option linter.unusedSimpArgs false
namespace Go.Proofs.YthaepkpmpnofgaaGreat.ApK
open Go.RowKit Go.Proofs.YthaepkpmpnofgaaGreat.Kit Go.Proofs.YthaepkpmpnofgaaGreat.Blocks Go.Proofs.YthaepkpmpnofgaaGreat.Ses Go.Proofs.YthaepkpmpnofgaaGreat.Rws Go.Proofs.YthaepkpmpnofgaaGreat.Boxs Go.Proofs.YthaepkpmpnofgaaGreat.Mch Go.Proofs.YthaepkpmpnofgaaGreat.MatD Go.Proofs.YthaepkpmpnofgaaGreat.PutD Go.Proofs.YthaepkpmpnofgaaGreat.SsnWalkA Go.Proofs.YthaepkpmpnofgaaGreat.ApD Go.Proofs.YthaepkpmpnofgaaGreat.ApE Go.Proofs.YthaepkpmpnofgaaGreat.ApG
open Go.Proofs.YthaepkpmpnofgaaGreat.Sag (Sg outc takes abort aborts)
open Go.Proofs.YthaepkpmpnofgaaGreat.SagAt (At Box4 sgV)
open Go.Proofs.YthaepkpmpnofgaaGreat.RdT (only_s only_b)
open Go.Proofs.YthaepkpmpnofgaaGreat.Cmd (Cm yes dec decZ mayB yes_back)
open Go.Proofs.YthaepkpmpnofgaaGreat.CmdAt (cmV CAt Bx cm_box)

set_option maxRecDepth 100000 in
set_option maxHeartbeats 16000000 in
theorem dap_new {B : Nat} {w : World} {p : Nat} {vR vI vS : Value} {m : Mc} {hs : List Hs} (h : MD B w p vR vI vS m hs) (hf : Fit m) (s : ByteArray) (hsz : s.size ≤ 9223372036854775807) {k : Cm} (hk : dec s = k) (hz : decZ s = 0) (hm : mayB k = true) (hfin : Cmd.Fin k) (h1 : k.k ≠ 1) (h4 : k.k ≠ 4) (hb : begF (clock m.t k.nw) k.ss k.sq = true) (hkk : k.k = 2) (hsi : seekS m.l k.sg = none) (h16 : ¬ 16 ≤ m.l.length) (hroom : k.l.length * 32 ≤ 140737488355328) :
    Calls Tryz.prog 12 #[.pointer (some ⟨p, 0, none⟩), .string s] w fun e w' => e = .returned (ryV (told (first k))) ∧ LeftM B w p vR vI vS ⟨endT (begT (clock m.t k.nw) k.ss) k.ss k.sq (told (first k)), putS m.l k.sg (first k)⟩ w' := by
  have HD := Lib.hid (rdec_lit hsz hk hz)
  obtain ⟨t1, ht1⟩ : ∃ t, clock m.t k.nw = t := ⟨_, rfl⟩
  have hG1 : Sane t1 := by rw [← ht1]; exact hf.tb.clock hfin.nw
  have HT1 := Lib.hid ht1
  have HNW : Hid (U k.nw) := hfin.nw
  have HFT := Lib.hid hf.tb
  have H := Lib.hid h
  have hpl := h.plt
  have hP := Box3.new w (.int .i64 0) (.int .u64 0) (.int .u64 0)
  have hb0 : Below w.heap.size w (w.alloc (.cells #[.int .i64 0, .int .u64 0, .int .u64 0] 32)) := (Below.refl _ _).alloc (Nat.le_refl _) _
  obtain ⟨w0, hw0⟩ : ∃ x, w.alloc (.cells #[.int .i64 0, .int .u64 0, .int .u64 0] 32) = x := ⟨_, rfl⟩
  rw [hw0] at hP hb0
  have HW0 := Lib.hid hw0
  have HP := Lib.hid hP
  have HB0 := Lib.hid hb0
  rw [ht1]
  rw [ht1] at hb
  have k1 : (k.k == 1) = false := by simpa using h1
  have k4 : (k.k == 4) = false := by simpa using h4
  have k2 : (k.k == 2) = true := by rw [hkk]; rfl
  clear h1 h4 hkk
  obtain ⟨t2, ht2⟩ : ∃ t, begT t1 k.ss = t := ⟨_, rfl⟩
  obtain ⟨y0, y1, y2, hy⟩ : ∃ a b c, begY t1 k.ss k.sq = ⟨a, b, c⟩ := ⟨_, _, _, rfl⟩
  rw [ht2]
  have HT2 := Lib.hid ht2
  have HY := Lib.hid hy
  have HB := Lib.hid hb
  have HSQ : Hid (U k.sq) := hfin.sq
  clear ht2 hy hb
  have hG2 : Sane t2 := by rw [← HT2.out]; exact hG1.beg k.ss
  obtain ⟨t3, ht3⟩ : ∃ t, endT t2 k.ss k.sq (told (first k)) = t := ⟨_, rfl⟩
  obtain ⟨bf, hbf⟩ : ∃ t, endF t2 k.ss k.sq = t := ⟨_, rfl⟩
  rw [ht3]
  unfold told first at ht3
  simp only at ht3
  have HT3 := Lib.hid ht3
  have HBF := Lib.hid hbf
  clear ht3 hbf
  have HSI := Lib.hid hsi
  clear hsi
  obtain ⟨AI, cI, hvI, _, _, _⟩ := h.idform
  have HL16 := Lib.hid (show m.l.length ≤ 16 by omega)
  obtain ⟨L, hL⟩ : ∃ L, m.l.length = L := ⟨_, rfl⟩
  rw [hL] at hvI h16
  have HVI := Lib.hid hvI
  have h16' : ¬ (16 : Int) ≤ (L : Int) := by omega
  have h16'' : ¬ (L : Int) ≥ 16 := by omega
  have HROOM := Lib.hid hroom
  clear hvI hL h16 hroom
  clear hw0 hP hb0 ht1 hk hz h hf hfin hsz
  go_enter Tryz.func12, Tryz.ntmps12
  go_wp2_with fail
  rw [HW0.out]
  with_reducible refine (HD.out w0).mono ?_
  rintro e w1 ⟨A, n, c, rfl, hA, hb1, hnew⟩
  obtain ⟨w2, HW2, hx, hA2, hb2⟩ := cm_box c hA
  have hX := cx_new H.out HP.out HB0.out hb1 hA trivial hx hA2 hb2 (fun hn ad e => by have := hnew hn ad e; have := HB0.out.size; omega)
  obtain ⟨P, hPe⟩ : ∃ P, w.heap.size = P := ⟨_, rfl⟩
  obtain ⟨C, hCe⟩ : ∃ C, w1.heap.size = C := ⟨_, rfl⟩
  rw [hPe, hCe] at hX
  clear hA hb1 hnew hx hA2 hb2
  unfold CmdAt.cmV
  go_upto_region 2 with fail
  rw [HW2.out]
  clear hPe hCe
  have X2 := Lib.hid hX
  obtain ⟨x0, x1, x2, x3, x4, x5, x6, x7, x8, x9⟩ := hX.cx.all
  have hCl := hX.cx.lt
  have hpr := hX.md.plt
  have hd := hX.below ((Below.refl w2.heap.size w2).drew)
  have HCLK := Lib.hid (CalD.rclock_any hd.md.tb HFT.out HNW.out HT1)
  have HDR := Lib.hid hd
  have y9 : w2.drew.cell? ⟨C, 9, none⟩ = some (.int .u64 (k.nw : Int)) := x9
  clear hX hd
  go_upto_region 4 with fail
  go_region_held3 (fun W => W.cell? ⟨C, 9, none⟩ = some (.int .u64 (k.nw : Int)))
    (first
      | exact y9
      | exact X3.out.cx.c9)
    (first
      | (go_at_call 29
         (with_reducible refine HCLK.out.mono ?_)
         rintro e w3 ⟨rfl, hleft⟩
         obtain ⟨vR1, hX3⟩ := HDR.out.sess hleft
         have X3 := Lib.hid hX3
         clear hleft hX3))
  clear x0 x1 x2 x3 x4 x5 x6 x7 x8 x9 hCl hpr y9
  obtain ⟨x0, x1, x2, x3, x4, x5, x6, x7, x8, x9⟩ := X3.out.cx.all
  have hCl := X3.out.cx.lt
  have hpr := X3.out.md.plt
  have hpx := X3.out.px
  obtain ⟨p0, p1, p2⟩ : _ ∧ _ ∧ _ := ⟨hpx.c0, hpx.c1, hpx.c2⟩
  have pf := hpx.free
  have hPl := hpx.lt
  clear hpx
  have HF := Lib.hid (dfind_no X3.out.md k.sg HSI.out)
  go_wp2_with fail
  with_reducible refine HF.out.mono ?_
  rintro e w4 ⟨rfl, rfl⟩
  go_upto_region 17 with fail
  have hX3d := X3.out.below ((Below.refl w4.heap.size w4).drew)
  have X3d := Lib.hid hX3d
  have hX3a := (X3.out.below ((Below.refl w4.heap.size w4).alloc (Nat.le_refl _) (.cells #[.int .i64 0, .int .u64 0, .int .u64 0] 32))).below (Below.refl _ _).drew
  have X3a := Lib.hid hX3a
  clear hX3d hX3a
  have HBG := Lib.hid (fun W (X : Cx B w W p P C vR vI vS vR1 vI vS ⟨t1, m.l⟩ hs A n c k) => CalD.rbeg_any X.md.tb hG1 k.ss HSQ.out HT2 HY HB)
  unfold Rws.ryV at HBG
  go_cut [12, 13] from 83 to 93 (fun dd ff wx => ∃ vR2 D, dd = .pointer (some ⟨D, 0, none⟩) ∧ ff = .bool true ∧ Hid (Cx B w wx p P C vR vI vS vR2 vI vS ⟨t2, m.l⟩ hs A n c k) ∧ Hid (Box3 wx D (.int .i64 y0) (.int .u64 (y1 : Int)) (.int .u64 (y2 : Int))) ∧ Hid (Clr w p P C vR2 vI vS hs A n D))
  case first =>
    go_region_held3 (fun W => W.cell? ⟨C, 1, none⟩ = some (.int .u64 (k.ss : Int)) ∧ W.cell? ⟨C, 2, none⟩ = some (.int .u64 (k.sq : Int)))
      (first
        | exact ⟨X3d.out.cx.c1, X3d.out.cx.c2⟩
        | exact ⟨X3a.out.cx.c1, X3a.out.cx.c2⟩
        | exact ⟨X4.out.cx.c1, X4.out.cx.c2⟩
        | exact ⟨X5.out.cx.c1, X5.out.cx.c2⟩
        | (rw [HW6.out]; exact ⟨X6.out.cx.c1, X6.out.cx.c2⟩))
      (first
        | (go_at_call 34
           (with_reducible refine (HBG.out _ X3d.out).mono ?_)
           rintro e w5 ⟨rfl, hleft⟩
           obtain ⟨vR2, hX4⟩ := X3d.out.sess hleft
           obtain ⟨hX5, hQ5, hR, w6, HW6, hX6, hQ6⟩ := ApG.Cx.fin1 hX4 (.int .i64 y0) (.int .u64 (y1 : Int)) (.int .u64 (y2 : Int))
           have X4 := Lib.hid hX4
           have X5 := Lib.hid hX5
           have X6 := Lib.hid hX6
           have R6 := Lib.hid hR
           have Q6 := Lib.hid hQ6
           have z0 := hQ5.c0
           have z1 := hQ5.c1
           have z2 := hQ5.c2
           have zf := hQ5.free
           have zl := hQ5.lt
           clear hleft hX4 hX5 hQ5 hR hX6 hQ6)
        | (go_at_call 34
           (with_reducible refine (HBG.out _ X3a.out).mono ?_)
           rintro e w5 ⟨rfl, hleft⟩
           obtain ⟨vR2, hX4, hQ5, hR, w6, HW6, hX6, hQ6⟩ := ApG.Cx.fin2 X3.out hleft (.int .i64 y0) (.int .u64 (y1 : Int)) (.int .u64 (y2 : Int))
           have X4 := Lib.hid hX4
           have X6 := Lib.hid hX6
           have R6 := Lib.hid hR
           have Q6 := Lib.hid hQ6
           have z0 := hQ5.c0
           have z1 := hQ5.c1
           have z2 := hQ5.c2
           have zf := hQ5.free
           have zl := hQ5.lt
           clear hleft hX4 hQ5 hR hX6 hQ6))
    all_goals
      go_wp2_with fail
      go_meet
      rw [HW6.out]
      exact ⟨_, _, rfl, rfl, X6, Q6, R6⟩
  obtain ⟨vR2, D, rfl, rfl, X6, Q6, R6⟩ := hcut
  clear x0 x1 x2 x3 x4 x5 x6 x7 x8 x9 hCl hpr p0 p1 p2 pf hPl X3d X3a HBG
  obtain ⟨q0, q1, q2⟩ : _ ∧ _ ∧ _ := ⟨Q6.out.c0, Q6.out.c1, Q6.out.c2⟩
  have hql := Q6.out.lt
  have qf := Q6.out.free
  clear q0 q1 q2 hql qf
  obtain ⟨x0, x4⟩ : _ ∧ _ := ⟨X6.out.cx.c0, X6.out.cx.c4⟩
  have hCl := X6.out.cx.lt
  have hpr := X6.out.md.plt
  have m3 := X6.out.md.c3
  rw [HVI.out] at m3
  have hcat := X6.out.cat
  have hn := (Stq.RS.len hcat.rs).symm
  have hnb : (0 + n) * 32 ≤ 140737488355328 := by have := HROOM.out; omega
  have HRD := Lib.hid hcat.rs
  have HN := Lib.hid hn
  have HNM := Lib.hid hcat.nm
  clear hcat hn
  go_upto_region 29 with (first
    | (at_builtin
       refine AppS.wpList_app (v := .slice none 0 0) _ rfl _ _ rfl wc.heap.size rfl (World.ownsRow_nil _ _ _ _) rfl HRD.out (Stq.scells_one _) hnb (Nat.le_refl _) ?_
       intro A9 c9 w8 hown hg hat9
       have HOWN := Lib.hid hown
       have HGR := Lib.hid hg
       clear hown hg hat9))
  obtain ⟨hb8, hat8, hfr8⟩ := ApJ.cloned HN.out HOWN.out HGR.out HROOM.out HNM.out
  try rw [Nat.zero_add]
  have hX8 := X6.out.below hb8
  have hQ8 := Q6.out.below hb8
  have hb9 : Below w8.heap.size w8 (w8.alloc (.cells #[.slice A9 n c9, .int .i64 1, .int .i64 0, .int .i64 0] 49)) := (Below.refl _ _).alloc (Nat.le_refl _) _
  have hG9 := Box4.new w8 (.slice A9 n c9) (.int .i64 1) (.int .i64 0) (.int .i64 0)
  obtain ⟨w9, hw9⟩ : ∃ x, w8.alloc (.cells #[.slice A9 n c9, .int .i64 1, .int .i64 0, .int .i64 0] 49) = x := ⟨_, rfl⟩
  rw [hw9] at hb9 hG9 ⊢
  have hX9 := hX8.below hb9
  have hQ9 := hQ8.below hb9
  have hat9 := hat8.below hb9
  have hown2 : ∀ g, Own p vR2 vI vS g → g < wc.heap.size := fun g hg => (X6.out.md.own_lt hg).2
  have hPc := X6.out.px.lt
  have hDc := Q6.out.lt
  have hs8 := hb8.size
  have hs9 := hb9.size
  have HPUT := Lib.hid (dput_any hX9.md HL16.out k.sg ⟨A9, c9, first k⟩ hat9 (fun hn ad e ho => by have h1 := hfr8 hn ad e; have h2 := hown2 _ ho; omega))
  have hLOW : Hid (0 < k.l.length → ∀ ad, A9 = some ad → wc.heap.size ≤ ad.block) := hfr8
  obtain ⟨G, hG⟩ : ∃ G, w8.heap.size = G := ⟨_, rfl⟩
  rw [hG] at hG9 ⊢
  have hGp : G ≠ p := by have := X6.out.md.plt; omega
  have hDG : D ≠ G := by omega
  have X9 := Lib.hid hX9
  have Q9 := Lib.hid hQ9
  have G9 := Lib.hid hG9
  have hD9 : D < w9.heap.size := by omega
  have hPl : Hid (P < wc.heap.size) := hPc
  have hDl : Hid (D < wc.heap.size) := hDc
  clear x0 x4 hCl hpr m3 hX8 hQ8 hb8 hb9 hX9 hQ9 hat8 hat9 hfr8 hown2 hPc hDc hs8 hs9 hw9 hG hG9
  unfold SagAt.sgV first at HPUT
  simp only at HPUT
  rw [← HN.out] at HPUT
  obtain ⟨x0, x3⟩ : _ ∧ _ := ⟨X9.out.cx.c0, X9.out.cx.c3⟩
  have hCl := X9.out.cx.lt
  have hpr := X9.out.md.plt
  obtain ⟨g0, g1, g2, g3⟩ : _ ∧ _ ∧ _ ∧ _ := ⟨G9.out.c0, G9.out.c1, G9.out.c2, G9.out.c3⟩
  have gl := G9.out.lt
  go_wp2_with fail
  with_reducible refine HPUT.out.mono ?_
  rintro e w10 ⟨rfl, hput⟩
  obtain ⟨vI', vS', hs', hX10, ho10, hR10⟩ := ApJ.puts X9.out hput (fun hn ad e => by have h1 := hLOW.out hn ad e; have h2 := hPl.out; omega) R6.out hD9 (fun hn ad e => by have h1 := hLOW.out hn ad e; have h2 := hDl.out; omega)
  have hQ10 := Q9.out.keep ho10 (fun e => R6.out.no (by rw [e]; exact .inl (.inl rfl)))
  have hG10 := G9.out.keep (only_s ho10) hGp
  have X10 := Lib.hid hX10
  have R10 := Lib.hid hR10
  have Q10 := Lib.hid hQ10
  have G10 := Lib.hid hG10
  clear hput hX10 ho10 hR10 hQ10 hG10 x0 x3 hCl hpr g0 g1 g2 g3 gl hD9
  obtain ⟨g0, g1, g2, g3⟩ : _ ∧ _ ∧ _ ∧ _ := ⟨G10.out.c0, G10.out.c1, G10.out.c2, G10.out.c3⟩
  have gl := G10.out.lt
  have HTD := Lib.hid (dtold_any A9 c9 (first k) w10)
  unfold SagAt.sgV Rws.ryV told first at HTD
  simp only at HTD
  rw [← HN.out] at HTD
  go_upto_region 30 with fail
  go_wp2_with fail
  with_reducible refine HTD.out.mono ?_
  rintro e w11 ⟨rfl, hb11⟩
  have hX8 := X10.out.below hb11
  have hQ8 := Q10.out.below hb11
  clear g0 g1 g2 g3 gl
  have hpr := hX8.md.plt
  obtain ⟨q0, q1, q2⟩ : _ ∧ _ ∧ _ := ⟨hQ8.c0, hQ8.c1, hQ8.c2⟩
  have hql := hQ8.lt
  have qf := hQ8.free
  obtain ⟨hX7, hQ7⟩ := ApG.Cx.put hX8 hQ8 R10.out (.int .i64 0) (.int .u64 (Pln.u64 1 : Int)) (.int .u64 (Pln.u64 0 : Int))
  obtain ⟨w7, hw7⟩ : ∃ w7, (((w11.setCell ⟨D, 0, none⟩ (.int .i64 0)).setCell ⟨D, 1, none⟩ (.int .u64 (Pln.u64 1 : Int))).setCell ⟨D, 2, none⟩ (.int .u64 (Pln.u64 0 : Int))) = w7 := ⟨_, rfl⟩
  rw [hw7] at hX7 hQ7
  have X7 := Lib.hid hX7
  have Q7 := Lib.hid hQ7
  have HW7 := Lib.hid hw7
  clear hX7 hQ7 hw7 hX8 hQ8 hb11
  go_upto_region 33 with fail
  rw [HW7.out]
  clear q0 q1 q2 qf hql hpr
  have hpr := X7.out.md.plt
  have hXd := X7.out.below ((Below.refl w7.heap.size w7).drew)
  have hQd := Q7.out.below ((Below.refl w7.heap.size w7).drew)
  have hen := CalD.rend_any hXd.md.tb hG2 k.ss HSQ.out ⟨0, Pln.u64 1, Pln.u64 0⟩ HT3 HBF
  unfold Rws.ryV at hen
  simp only at hen
  try rw [show ((0 : Nat) : Int) = 0 from rfl] at hen
  have HEN := Lib.hid hen
  have XD := Lib.hid hXd
  have QD := Lib.hid hQd
  clear hXd hQd hen
  go_region_held3 (fun W => W.cell? ⟨C, 1, none⟩ = some (.int .u64 (k.ss : Int)) ∧ W.cell? ⟨C, 2, none⟩ = some (.int .u64 (k.sq : Int)) ∧ W.cell? ⟨D, 0, none⟩ = some (.int .i64 0) ∧ W.cell? ⟨D, 1, none⟩ = some (.int .u64 (Pln.u64 1 : Nat)) ∧ W.cell? ⟨D, 2, none⟩ = some (.int .u64 (Pln.u64 0 : Nat)))
    (first
      | exact ⟨XD.out.cx.c1, XD.out.cx.c2, QD.out.c0, QD.out.c1, QD.out.c2⟩
      | exact ⟨X9.out.cx.c1, X9.out.cx.c2, Q9.out.c0, Q9.out.c1, Q9.out.c2⟩)
    (first
      | (go_at_call 37
         (with_reducible refine HEN.out.mono ?_)
         rintro e w9 ⟨rfl, hleft⟩
         obtain ⟨vR9, hX9, ho9, _⟩ := ApG.Cx.sess2 XD.out hleft
         have hQ9 := QD.out.keep ho9 R10.out.no
         have X9 := Lib.hid hX9
         have Q9 := Lib.hid hQ9
         clear hleft hX9 hQ9 ho9))
  obtain ⟨e0, e1, e2⟩ : _ ∧ _ ∧ _ := ⟨Q9.out.c0, Q9.out.c1, Q9.out.c2⟩
  have hpx := X9.out.px
  obtain ⟨p0, p1, p2⟩ : _ ∧ _ ∧ _ := ⟨hpx.c0, hpx.c1, hpx.c2⟩
  have pf := hpx.free
  have hPl := hpx.lt
  have HZ := Lib.hid (hpx.set (.int .i64 0) (.int .u64 (Pln.u64 1 : Nat)) (.int .u64 (Pln.u64 0 : Nat))).1
  have HE := Lib.hid (X9.out.ends (.int .i64 0) (.int .u64 (Pln.u64 1 : Nat)) (.int .u64 (Pln.u64 0 : Nat)))
  clear hpx
  go_wp2
  refine bodyPost_ret (res1y (q := 4) rfl _ rfl HZ.out) rfl ?_
  exact ⟨rfl, HE.out⟩
end Go.Proofs.YthaepkpmpnofgaaGreat.ApK
set_option linter.unusedVariables false
set_option linter.unusedSimpArgs false
namespace Go.Proofs.YthaepkpmpnofgaaGreat.ApL
open Go.RowKit Go.Proofs.YthaepkpmpnofgaaGreat.Kit Go.Proofs.YthaepkpmpnofgaaGreat.Blocks Go.Proofs.YthaepkpmpnofgaaGreat.Ses Go.Proofs.YthaepkpmpnofgaaGreat.Rws Go.Proofs.YthaepkpmpnofgaaGreat.Boxs Go.Proofs.YthaepkpmpnofgaaGreat.Mch Go.Proofs.YthaepkpmpnofgaaGreat.MatD Go.Proofs.YthaepkpmpnofgaaGreat.PutD Go.Proofs.YthaepkpmpnofgaaGreat.SsnWalkA Go.Proofs.YthaepkpmpnofgaaGreat.ApD Go.Proofs.YthaepkpmpnofgaaGreat.ApE Go.Proofs.YthaepkpmpnofgaaGreat.ApG
open Go.Proofs.YthaepkpmpnofgaaGreat.Sag (Sg outc takes abort aborts)
open Go.Proofs.YthaepkpmpnofgaaGreat.SagAt (At Box4 sgV)
open Go.Proofs.YthaepkpmpnofgaaGreat.RdT (only_s only_b)
open Go.Proofs.YthaepkpmpnofgaaGreat.Cmd (Cm yes dec decZ mayB yes_back)
open Go.Proofs.YthaepkpmpnofgaaGreat.CmdAt (cmV CAt Bx cm_box)

set_option maxRecDepth 100000 in
set_option maxHeartbeats 16000000 in
theorem dap_none {B : Nat} {w : World} {p : Nat} {vR vI vS : Value} {m : Mc} {hs : List Hs} (h : MD B w p vR vI vS m hs) (hf : Fit m) (s : ByteArray) (hsz : s.size ≤ 9223372036854775807) {k : Cm} (hk : dec s = k) (hz : decZ s = 2)  :
    Calls Tryz.prog 12 #[.pointer (some ⟨p, 0, none⟩), .string s] w fun e w' => e = .returned (ryV (yE 2)) ∧ LeftM B w p vR vI vS m w' := by
  have HD := Lib.hid (rdec_lit hsz hk hz)
  have H := Lib.hid h
  have hpl := h.plt
  have hP := Box3.new w (.int .i64 0) (.int .u64 0) (.int .u64 0)
  have hb0 : Below w.heap.size w (w.alloc (.cells #[.int .i64 0, .int .u64 0, .int .u64 0] 32)) := (Below.refl _ _).alloc (Nat.le_refl _) _
  obtain ⟨w0, hw0⟩ : ∃ x, w.alloc (.cells #[.int .i64 0, .int .u64 0, .int .u64 0] 32) = x := ⟨_, rfl⟩
  rw [hw0] at hP hb0
  have HW0 := Lib.hid hw0
  have HP := Lib.hid hP
  have HB0 := Lib.hid hb0
  clear hw0 hP hb0 hk hz h hf hsz
  go_enter Tryz.func12, Tryz.ntmps12
  go_wp2_with fail
  rw [HW0.out]
  with_reducible refine (HD.out w0).mono ?_
  rintro e w1 ⟨A, n, c, rfl, hA, hb1, hnew⟩
  obtain ⟨w2, HW2, hx, hA2, hb2⟩ := cm_box c hA
  have hX := cx_new H.out HP.out HB0.out hb1 hA trivial hx hA2 hb2 (fun hn ad e => by have := hnew hn ad e; have := HB0.out.size; omega)
  obtain ⟨P, hPe⟩ : ∃ P, w.heap.size = P := ⟨_, rfl⟩
  obtain ⟨C, hCe⟩ : ∃ C, w1.heap.size = C := ⟨_, rfl⟩
  rw [hPe, hCe] at hX
  clear hA hb1 hnew hx hA2 hb2
  unfold CmdAt.cmV
  go_upto_region 2 with fail
  rw [HW2.out]
  clear hPe hCe
  have X2 := Lib.hid hX
  clear hX
  have hpx := X2.out.px
  obtain ⟨p0, p1, p2⟩ : _ ∧ _ ∧ _ := ⟨hpx.c0, hpx.c1, hpx.c2⟩
  have pf := hpx.free
  have hPl := hpx.lt
  have HZ := Lib.hid (hpx.set (.int .i64 2) (.int .u64 0) (.int .u64 0)).1
  have HE := Lib.hid (X2.out.ends (.int .i64 2) (.int .u64 0) (.int .u64 0))
  clear hpx
  go_wp2
  refine bodyPost_ret (res1y (q := 4) rfl _ rfl HZ.out) rfl ?_
  exact ⟨rfl, HE.out⟩
end Go.Proofs.YthaepkpmpnofgaaGreat.ApL

set_option linter.unusedVariables false
set_option linter.unusedSimpArgs false
namespace Go.Proofs.YthaepkpmpnofgaaGreat.ApM
open Go.RowKit Go.Proofs.YthaepkpmpnofgaaGreat.Kit Go.Proofs.YthaepkpmpnofgaaGreat.Blocks Go.Proofs.YthaepkpmpnofgaaGreat.Ses Go.Proofs.YthaepkpmpnofgaaGreat.Rws Go.Proofs.YthaepkpmpnofgaaGreat.Mch Go.Proofs.YthaepkpmpnofgaaGreat.MatD Go.Proofs.YthaepkpmpnofgaaGreat.ApD
open Go.Proofs.YthaepkpmpnofgaaGreat.Sag (Sg outc takes abort aborts)
open Go.Proofs.YthaepkpmpnofgaaGreat.Cmd (Cm yes dec decZ mayB yes_back may_kind)
open Go.Proofs.YthaepkpmpnofgaaGreat.Pln (chk)

theorem first_room {k : Cm} (hm : mayB k = true) (h2 : k.k = 2) : k.l.length * 32 ≤ 140737488355328 := by
  have hc : chk k.l = 0 := by
    rcases may_kind hm with ⟨h1, _⟩ | ⟨_, h2, _⟩ | ⟨h1, _⟩
    · omega
    · exact h2
    · omega
  obtain ⟨h1, h3, _⟩ := Pln.isDef_yes (Pln.chk_def hc)
  omega
theorem dap_any {B : Nat} {w : World} {p : Nat} {vR vI vS : Value} {m : Mc} {hs : List Hs} (h : MD B w p vR vI vS m hs) (hf : Fit m) (s : ByteArray) (hsz : s.size ≤ 9223372036854775807) :
    Calls Tryz.prog 12 #[.pointer (some ⟨p, 0, none⟩), .string s] w fun e w' => e = .returned (ryV (ap m s).2) ∧ LeftM B w p vR vI vS (ap m s).1 w' := by
  by_cases hy : yes s = true
  · have hz : decZ s = 0 := by unfold decZ; rw [if_pos hy]
    obtain ⟨hm, _, hfin⟩ := yes_back hy
    rw [show ap m s = apC m (dec s) by unfold ap; rw [if_pos hy]]
    obtain ⟨k, hk⟩ : ∃ k, dec s = k := ⟨_, rfl⟩
    rw [hk] at hm hfin ⊢
    unfold apC
    by_cases h1 : k.k = 1
    · rw [if_pos h1]
      exact ApF.dap_reg h hf s hsz hk hz hm hfin h1
    rw [if_neg h1]
    by_cases h4 : k.k = 4
    · rw [if_pos h4]
      unfold hears
      cases hsk : seekS m.l k.sg with
      | none => exact ApF.dap_hear0 h hf s hsz hk hz hm hfin h4 hsk
      | some i =>
        obtain ⟨y, hyi, hyk, _⟩ := seekS_some hsk
        simp only [hyi]
        by_cases ht : takes y.2 k.st k.bk k.tr k.ok = true
        · rw [if_pos ht]
          exact ApF.dap_hear_yes h hf s hsz hk hz hm hfin h4 hsk hyi rfl ht
        · rw [if_neg ht]
          exact ApF.dap_hear_no h hf s hsz hk hz hm hfin h4 hsk hyi rfl (by simpa using ht)
    rw [if_neg h4]
    by_cases hb : begF (clock m.t k.nw) k.ss k.sq = true
    · rw [if_pos hb]
      unfold does
      cases hsk : seekS m.l k.sg with
      | none =>
        simp only
        by_cases h2 : k.k = 2
        · rw [if_pos h2]
          by_cases h16 : 16 ≤ m.l.length
          · rw [if_pos h16]
            exact ApH.dap_full h hf s hsz hk hz hm hfin h1 h4 hb h2 hsk h16
          · rw [if_neg h16]
            exact ApK.dap_new h hf s hsz hk hz hm hfin h1 h4 hb h2 hsk h16 (first_room hm h2)
        · rw [if_neg h2]
          exact ApH.dap_gone h hf s hsz hk hz hm hfin h1 h4 hb h2 hsk
      | some i =>
        obtain ⟨y, hyi, hyk, _⟩ := seekS_some hsk
        simp only [hyi]
        by_cases h2 : k.k = 2
        · rw [if_pos h2]
          exact ApH.dap_twice h hf s hsz hk hz hm hfin h1 h4 hb h2 hsk
        · rw [if_neg h2]
          by_cases h3 : k.k = 3
          · rw [if_pos h3]
            exact ApI.dap_abort h hf s hsz hk hz hm hfin h1 h4 hb hsk hyi h3 rfl
          · rw [if_neg h3]
            exact ApH.dap_ask h hf s hsz hk hz hm hfin h1 h4 hb hsk hyi h2 h3
    · rw [if_neg hb]
      exact ApF.dap_stale h hf s hsz hk hz hm hfin h1 h4 (by simpa using hb)
  · have hz : decZ s = 2 := by unfold decZ; rw [if_neg hy]
    rw [show ap m s = (m, yE 2) by unfold ap; rw [if_neg hy]]
    exact ApL.dap_none h hf s hsz rfl hz
end Go.Proofs.YthaepkpmpnofgaaGreat.ApM
