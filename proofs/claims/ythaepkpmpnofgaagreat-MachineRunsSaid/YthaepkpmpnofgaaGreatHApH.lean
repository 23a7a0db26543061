/- What the document's Apply answers, walked, a theorem for each way. No statement is proved here. -/
import Derived.Test.YthaepkpmpnofgaaGreatGU
import Derived.Deep.RegionHeld3
import Derived.Deep.CutRange
import Derived.StillTailTactics
set_option linter.unusedVariables false
set_option linter.unusedSimpArgs false
namespace Go.Proofs.YthaepkpmpnofgaaGreat.ApH
open Go.RowKit Go.Proofs.YthaepkpmpnofgaaGreat.Kit Go.Proofs.YthaepkpmpnofgaaGreat.Blocks Go.Proofs.YthaepkpmpnofgaaGreat.Ses Go.Proofs.YthaepkpmpnofgaaGreat.Rws Go.Proofs.YthaepkpmpnofgaaGreat.Boxs Go.Proofs.YthaepkpmpnofgaaGreat.Mch Go.Proofs.YthaepkpmpnofgaaGreat.MatD Go.Proofs.YthaepkpmpnofgaaGreat.PutD Go.Proofs.YthaepkpmpnofgaaGreat.SsnWalkA Go.Proofs.YthaepkpmpnofgaaGreat.ApD Go.Proofs.YthaepkpmpnofgaaGreat.ApE Go.Proofs.YthaepkpmpnofgaaGreat.ApG
open Go.Proofs.YthaepkpmpnofgaaGreat.Sag (Sg outc takes abort aborts)
open Go.Proofs.YthaepkpmpnofgaaGreat.SagAt (At Box4 sgV)
open Go.Proofs.YthaepkpmpnofgaaGreat.RdT (only_s only_b)
open Go.Proofs.YthaepkpmpnofgaaGreat.Cmd (Cm yes dec decZ mayB yes_back)
open Go.Proofs.YthaepkpmpnofgaaGreat.CmdAt (cmV CAt Bx cm_box)

set_option maxRecDepth 100000 in
set_option maxHeartbeats 16000000 in
theorem dap_twice {B : Nat} {w : World} {p : Nat} {vR vI vS : Value} {m : Mc} {hs : List Hs} (h : MD B w p vR vI vS m hs) (hf : Fit m) (s : ByteArray) (hsz : s.size ≤ 9223372036854775807) {k : Cm} (hk : dec s = k) (hz : decZ s = 0) (hm : mayB k = true) (hfin : Cmd.Fin k) (h1 : k.k ≠ 1) (h4 : k.k ≠ 4) (hb : begF (clock m.t k.nw) k.ss k.sq = true) (hkk : k.k = 2) {i : Nat} (hsi : seekS m.l k.sg = some i) :
    Calls Tryz.prog 12 #[.pointer (some ⟨p, 0, none⟩), .string s] w fun e w' => e = .returned (ryV (yE 42)) ∧ LeftM B w p vR vI vS ⟨endT (begT (clock m.t k.nw) k.ss) k.ss k.sq (yE 42), m.l⟩ w' := by
  have HD := Lib.hid (rdec_lit hsz hk hz)
  obtain ⟨t1, ht1⟩ : ∃ t, clock m.t k.nw = t := ⟨_, rfl⟩
  have hG1 : Sane t1 := by rw [← ht1]; exact hf.tb.clock hfin.nw
  have HT1 := Lib.hid ht1
  have HNW : Hid (U k.nw) := hfin.nw
  have HFT := Lib.hid hf.tb
  have H := Lib.hid h
  have hpl := h.plt
  have hP := Box3.new w (.int .i64 0) (.int .u64 0) (.int .u64 0)
  have hb0 : Below w.heap.size w (w.alloc (.cells #[.int .i64 0, .int .u64 0, .int .u64 0] 32)) := (Below.refl _ _).alloc (Nat.le_refl _) _
  obtain ⟨w0, hw0⟩ : ∃ x, w.alloc (.cells #[.int .i64 0, .int .u64 0, .int .u64 0] 32) = x := ⟨_, rfl⟩
  rw [hw0] at hP hb0
  have HW0 := Lib.hid hw0
  have HP := Lib.hid hP
  have HB0 := Lib.hid hb0
  rw [ht1]
  rw [ht1] at hb
  have k1 : (k.k == 1) = false := by simpa using h1
  have k4 : (k.k == 4) = false := by simpa using h4
  have k2 : (k.k == 2) = true := by rw [hkk]; rfl
  clear h1 h4
  obtain ⟨t2, ht2⟩ : ∃ t, begT t1 k.ss = t := ⟨_, rfl⟩
  obtain ⟨y0, y1, y2, hy⟩ : ∃ a b c, begY t1 k.ss k.sq = ⟨a, b, c⟩ := ⟨_, _, _, rfl⟩
  rw [ht2]
  have HT2 := Lib.hid ht2
  have HY := Lib.hid hy
  have HB := Lib.hid hb
  have HSQ : Hid (U k.sq) := hfin.sq
  clear ht2 hy hb
  have hG2 : Sane t2 := by rw [← HT2.out]; exact hG1.beg k.ss
  obtain ⟨t3, ht3⟩ : ∃ t, endT t2 k.ss k.sq (yE 42) = t := ⟨_, rfl⟩
  obtain ⟨bf, hbf⟩ : ∃ t, endF t2 k.ss k.sq = t := ⟨_, rfl⟩
  rw [ht3]
  have HT3 := Lib.hid ht3
  have HBF := Lib.hid hbf
  clear ht3 hbf
  clear hkk
  have HSI := Lib.hid hsi
  clear hsi
  have hin : (i : Int) ≥ 0 := by omega
  have hin' : (0 : Int) ≤ (i : Int) := by omega
  clear hw0 hP hb0 ht1 hk hz h hf hfin hsz
  go_enter Tryz.func12, Tryz.ntmps12
  go_wp2_with fail
  rw [HW0.out]
  with_reducible refine (HD.out w0).mono ?_
  rintro e w1 ⟨A, n, c, rfl, hA, hb1, hnew⟩
  obtain ⟨w2, HW2, hx, hA2, hb2⟩ := cm_box c hA
  have hX := cx_new H.out HP.out HB0.out hb1 hA trivial hx hA2 hb2 (fun hn ad e => by have := hnew hn ad e; have := HB0.out.size; omega)
  obtain ⟨P, hPe⟩ : ∃ P, w.heap.size = P := ⟨_, rfl⟩
  obtain ⟨C, hCe⟩ : ∃ C, w1.heap.size = C := ⟨_, rfl⟩
  rw [hPe, hCe] at hX
  clear hA hb1 hnew hx hA2 hb2
  unfold CmdAt.cmV
  go_upto_region 2 with fail
  rw [HW2.out]
  clear hPe hCe
  have X2 := Lib.hid hX
  obtain ⟨x0, x1, x2, x3, x4, x5, x6, x7, x8, x9⟩ := hX.cx.all
  have hCl := hX.cx.lt
  have hpr := hX.md.plt
  have hd := hX.below ((Below.refl w2.heap.size w2).drew)
  have HCLK := Lib.hid (CalD.rclock_any hd.md.tb HFT.out HNW.out HT1)
  have HDR := Lib.hid hd
  have y9 : w2.drew.cell? ⟨C, 9, none⟩ = some (.int .u64 (k.nw : Int)) := x9
  clear hX hd
  go_upto_region 4 with fail
  go_region_held3 (fun W => W.cell? ⟨C, 9, none⟩ = some (.int .u64 (k.nw : Int)))
    (first
      | exact y9
      | exact X3.out.cx.c9)
    (first
      | (go_at_call 29
         (with_reducible refine HCLK.out.mono ?_)
         rintro e w3 ⟨rfl, hleft⟩
         obtain ⟨vR1, hX3⟩ := HDR.out.sess hleft
         have X3 := Lib.hid hX3
         clear hleft hX3))
  clear x0 x1 x2 x3 x4 x5 x6 x7 x8 x9 hCl hpr y9
  obtain ⟨x0, x1, x2, x3, x4, x5, x6, x7, x8, x9⟩ := X3.out.cx.all
  have hCl := X3.out.cx.lt
  have hpr := X3.out.md.plt
  have hpx := X3.out.px
  obtain ⟨p0, p1, p2⟩ : _ ∧ _ ∧ _ := ⟨hpx.c0, hpx.c1, hpx.c2⟩
  have pf := hpx.free
  have hPl := hpx.lt
  clear hpx
  have HF := Lib.hid (dfind_yes X3.out.md k.sg HSI.out)
  go_wp2_with fail
  with_reducible refine HF.out.mono ?_
  rintro e w4 ⟨rfl, rfl⟩
  go_upto_region 17 with fail
  have hX3d := X3.out.below ((Below.refl w4.heap.size w4).drew)
  have X3d := Lib.hid hX3d
  have hX3a := (X3.out.below ((Below.refl w4.heap.size w4).alloc (Nat.le_refl _) (.cells #[.int .i64 0, .int .u64 0, .int .u64 0] 32))).below (Below.refl _ _).drew
  have X3a := Lib.hid hX3a
  clear hX3d hX3a
  have HBG := Lib.hid (fun W (X : Cx B w W p P C vR vI vS vR1 vI vS ⟨t1, m.l⟩ hs A n c k) => CalD.rbeg_any X.md.tb hG1 k.ss HSQ.out HT2 HY HB)
  unfold Rws.ryV at HBG
  go_cut [12, 13] from 83 to 93 (fun dd ff wx => ∃ vR2 D, dd = .pointer (some ⟨D, 0, none⟩) ∧ ff = .bool true ∧ Hid (Cx B w wx p P C vR vI vS vR2 vI vS ⟨t2, m.l⟩ hs A n c k) ∧ Hid (Box3 wx D (.int .i64 y0) (.int .u64 (y1 : Int)) (.int .u64 (y2 : Int))) ∧ Hid (Clr w p P C vR2 vI vS hs A n D))
  case first =>
    go_region_held3 (fun W => W.cell? ⟨C, 1, none⟩ = some (.int .u64 (k.ss : Int)) ∧ W.cell? ⟨C, 2, none⟩ = some (.int .u64 (k.sq : Int)))
      (first
        | exact ⟨X3d.out.cx.c1, X3d.out.cx.c2⟩
        | exact ⟨X3a.out.cx.c1, X3a.out.cx.c2⟩
        | exact ⟨X4.out.cx.c1, X4.out.cx.c2⟩
        | exact ⟨X5.out.cx.c1, X5.out.cx.c2⟩
        | (rw [HW6.out]; exact ⟨X6.out.cx.c1, X6.out.cx.c2⟩))
      (first
        | (go_at_call 34
           (with_reducible refine (HBG.out _ X3d.out).mono ?_)
           rintro e w5 ⟨rfl, hleft⟩
           obtain ⟨vR2, hX4⟩ := X3d.out.sess hleft
           obtain ⟨hX5, hQ5, hR, w6, HW6, hX6, hQ6⟩ := ApG.Cx.fin1 hX4 (.int .i64 y0) (.int .u64 (y1 : Int)) (.int .u64 (y2 : Int))
           have X4 := Lib.hid hX4
           have X5 := Lib.hid hX5
           have X6 := Lib.hid hX6
           have R6 := Lib.hid hR
           have Q6 := Lib.hid hQ6
           have z0 := hQ5.c0
           have z1 := hQ5.c1
           have z2 := hQ5.c2
           have zf := hQ5.free
           have zl := hQ5.lt
           clear hleft hX4 hX5 hQ5 hR hX6 hQ6)
        | (go_at_call 34
           (with_reducible refine (HBG.out _ X3a.out).mono ?_)
           rintro e w5 ⟨rfl, hleft⟩
           obtain ⟨vR2, hX4, hQ5, hR, w6, HW6, hX6, hQ6⟩ := ApG.Cx.fin2 X3.out hleft (.int .i64 y0) (.int .u64 (y1 : Int)) (.int .u64 (y2 : Int))
           have X4 := Lib.hid hX4
           have X6 := Lib.hid hX6
           have R6 := Lib.hid hR
           have Q6 := Lib.hid hQ6
           have z0 := hQ5.c0
           have z1 := hQ5.c1
           have z2 := hQ5.c2
           have zf := hQ5.free
           have zl := hQ5.lt
           clear hleft hX4 hQ5 hR hX6 hQ6))
    all_goals
      go_wp2_with fail
      go_meet
      rw [HW6.out]
      exact ⟨_, _, rfl, rfl, X6, Q6, R6⟩
  obtain ⟨vR2, D, rfl, rfl, X6, Q6, R6⟩ := hcut
  clear x0 x1 x2 x3 x4 x5 x6 x7 x8 x9 hCl hpr p0 p1 p2 pf hPl X3d X3a HBG
  obtain ⟨q0, q1, q2⟩ : _ ∧ _ ∧ _ := ⟨Q6.out.c0, Q6.out.c1, Q6.out.c2⟩
  have hql := Q6.out.lt
  have qf := Q6.out.free
  clear q0 q1 q2 hql qf
  obtain ⟨x0, x4⟩ : _ ∧ _ := ⟨X6.out.cx.c0, X6.out.cx.c4⟩
  have hCl := X6.out.cx.lt
  have hpr := X6.out.md.plt
  have m3 := X6.out.md.c3
  try rw [HVI.out] at m3
  obtain ⟨q0, q1, q2⟩ : _ ∧ _ ∧ _ := ⟨Q6.out.c0, Q6.out.c1, Q6.out.c2⟩
  have hql := Q6.out.lt
  have qf := Q6.out.free
  obtain ⟨hX7, hQ7⟩ := ApG.Cx.put X6.out Q6.out R6.out (.int .i64 42) (.int .u64 0) (.int .u64 0)
  obtain ⟨w7, hw7⟩ : ∃ w7, (((wc.setCell ⟨D, 0, none⟩ (.int .i64 42)).setCell ⟨D, 1, none⟩ (.int .u64 0)).setCell ⟨D, 2, none⟩ (.int .u64 0)) = w7 := ⟨_, rfl⟩
  rw [hw7] at hX7 hQ7
  have X7 := Lib.hid hX7
  have Q7 := Lib.hid hQ7
  have HW7 := Lib.hid hw7
  clear hX7 hQ7 hw7
  go_upto_region 33 with fail
  rw [HW7.out]
  clear q0 q1 q2 qf hql x0 x4 hCl hpr m3
  have hpr := X7.out.md.plt
  have hXd := X7.out.below ((Below.refl w7.heap.size w7).drew)
  have hQd := Q7.out.below ((Below.refl w7.heap.size w7).drew)
  have hen := CalD.rend_any hXd.md.tb hG2 k.ss HSQ.out ⟨42, 0, 0⟩ HT3 HBF
  unfold Rws.ryV at hen
  simp only at hen
  try rw [show ((0 : Nat) : Int) = 0 from rfl] at hen
  have HEN := Lib.hid hen
  have XD := Lib.hid hXd
  have QD := Lib.hid hQd
  clear hXd hQd hen
  go_region_held3 (fun W => W.cell? ⟨C, 1, none⟩ = some (.int .u64 (k.ss : Int)) ∧ W.cell? ⟨C, 2, none⟩ = some (.int .u64 (k.sq : Int)) ∧ W.cell? ⟨D, 0, none⟩ = some (.int .i64 42) ∧ W.cell? ⟨D, 1, none⟩ = some (.int .u64 0) ∧ W.cell? ⟨D, 2, none⟩ = some (.int .u64 0))
    (first
      | exact ⟨XD.out.cx.c1, XD.out.cx.c2, QD.out.c0, QD.out.c1, QD.out.c2⟩
      | exact ⟨X9.out.cx.c1, X9.out.cx.c2, Q9.out.c0, Q9.out.c1, Q9.out.c2⟩)
    (first
      | (go_at_call 37
         (with_reducible refine HEN.out.mono ?_)
         rintro e w9 ⟨rfl, hleft⟩
         obtain ⟨vR9, hX9, ho9, _⟩ := ApG.Cx.sess2 XD.out hleft
         have hQ9 := QD.out.keep ho9 R6.out.no
         have X9 := Lib.hid hX9
         have Q9 := Lib.hid hQ9
         clear hleft hX9 hQ9 ho9))
  obtain ⟨e0, e1, e2⟩ : _ ∧ _ ∧ _ := ⟨Q9.out.c0, Q9.out.c1, Q9.out.c2⟩
  have hpx := X9.out.px
  obtain ⟨p0, p1, p2⟩ : _ ∧ _ ∧ _ := ⟨hpx.c0, hpx.c1, hpx.c2⟩
  have pf := hpx.free
  have hPl := hpx.lt
  have HZ := Lib.hid (hpx.set (.int .i64 42) (.int .u64 0) (.int .u64 0)).1
  have HE := Lib.hid (X9.out.ends (.int .i64 42) (.int .u64 0) (.int .u64 0))
  clear hpx
  go_wp2
  refine bodyPost_ret (res1y (q := 4) rfl _ rfl HZ.out) rfl ?_
  exact ⟨rfl, HE.out⟩
set_option maxRecDepth 100000 in
set_option maxHeartbeats 16000000 in
theorem dap_full {B : Nat} {w : World} {p : Nat} {vR vI vS : Value} {m : Mc} {hs : List Hs} (h : MD B w p vR vI vS m hs) (hf : Fit m) (s : ByteArray) (hsz : s.size ≤ 9223372036854775807) {k : Cm} (hk : dec s = k) (hz : decZ s = 0) (hm : mayB k = true) (hfin : Cmd.Fin k) (h1 : k.k ≠ 1) (h4 : k.k ≠ 4) (hb : begF (clock m.t k.nw) k.ss k.sq = true) (hkk : k.k = 2) (hsi : seekS m.l k.sg = none) (h16 : 16 ≤ m.l.length) :
    Calls Tryz.prog 12 #[.pointer (some ⟨p, 0, none⟩), .string s] w fun e w' => e = .returned (ryV (yE 11)) ∧ LeftM B w p vR vI vS ⟨endT (begT (clock m.t k.nw) k.ss) k.ss k.sq (yE 11), m.l⟩ w' := by
  have HD := Lib.hid (rdec_lit hsz hk hz)
  obtain ⟨t1, ht1⟩ : ∃ t, clock m.t k.nw = t := ⟨_, rfl⟩
  have hG1 : Sane t1 := by rw [← ht1]; exact hf.tb.clock hfin.nw
  have HT1 := Lib.hid ht1
  have HNW : Hid (U k.nw) := hfin.nw
  have HFT := Lib.hid hf.tb
  have H := Lib.hid h
  have hpl := h.plt
  have hP := Box3.new w (.int .i64 0) (.int .u64 0) (.int .u64 0)
  have hb0 : Below w.heap.size w (w.alloc (.cells #[.int .i64 0, .int .u64 0, .int .u64 0] 32)) := (Below.refl _ _).alloc (Nat.le_refl _) _
  obtain ⟨w0, hw0⟩ : ∃ x, w.alloc (.cells #[.int .i64 0, .int .u64 0, .int .u64 0] 32) = x := ⟨_, rfl⟩
  rw [hw0] at hP hb0
  have HW0 := Lib.hid hw0
  have HP := Lib.hid hP
  have HB0 := Lib.hid hb0
  rw [ht1]
  rw [ht1] at hb
  have k1 : (k.k == 1) = false := by simpa using h1
  have k4 : (k.k == 4) = false := by simpa using h4
  have k2 : (k.k == 2) = true := by rw [hkk]; rfl
  clear h1 h4
  obtain ⟨t2, ht2⟩ : ∃ t, begT t1 k.ss = t := ⟨_, rfl⟩
  obtain ⟨y0, y1, y2, hy⟩ : ∃ a b c, begY t1 k.ss k.sq = ⟨a, b, c⟩ := ⟨_, _, _, rfl⟩
  rw [ht2]
  have HT2 := Lib.hid ht2
  have HY := Lib.hid hy
  have HB := Lib.hid hb
  have HSQ : Hid (U k.sq) := hfin.sq
  clear ht2 hy hb
  have hG2 : Sane t2 := by rw [← HT2.out]; exact hG1.beg k.ss
  obtain ⟨t3, ht3⟩ : ∃ t, endT t2 k.ss k.sq (yE 11) = t := ⟨_, rfl⟩
  obtain ⟨bf, hbf⟩ : ∃ t, endF t2 k.ss k.sq = t := ⟨_, rfl⟩
  rw [ht3]
  have HT3 := Lib.hid ht3
  have HBF := Lib.hid hbf
  clear ht3 hbf
  clear hkk
  have HSI := Lib.hid hsi
  clear hsi
  obtain ⟨AI, cI, hvI, _, _, _⟩ := h.idform
  obtain ⟨L, hL⟩ : ∃ L, m.l.length = L := ⟨_, rfl⟩
  rw [hL] at hvI h16
  have HVI := Lib.hid hvI
  have h16' : (16 : Int) ≤ (L : Int) := by omega
  have h16'' : (L : Int) ≥ 16 := by omega
  clear hvI hL h16
  clear hw0 hP hb0 ht1 hk hz h hf hfin hsz
  go_enter Tryz.func12, Tryz.ntmps12
  go_wp2_with fail
  rw [HW0.out]
  with_reducible refine (HD.out w0).mono ?_
  rintro e w1 ⟨A, n, c, rfl, hA, hb1, hnew⟩
  obtain ⟨w2, HW2, hx, hA2, hb2⟩ := cm_box c hA
  have hX := cx_new H.out HP.out HB0.out hb1 hA trivial hx hA2 hb2 (fun hn ad e => by have := hnew hn ad e; have := HB0.out.size; omega)
  obtain ⟨P, hPe⟩ : ∃ P, w.heap.size = P := ⟨_, rfl⟩
  obtain ⟨C, hCe⟩ : ∃ C, w1.heap.size = C := ⟨_, rfl⟩
  rw [hPe, hCe] at hX
  clear hA hb1 hnew hx hA2 hb2
  unfold CmdAt.cmV
  go_upto_region 2 with fail
  rw [HW2.out]
  clear hPe hCe
  have X2 := Lib.hid hX
  obtain ⟨x0, x1, x2, x3, x4, x5, x6, x7, x8, x9⟩ := hX.cx.all
  have hCl := hX.cx.lt
  have hpr := hX.md.plt
  have hd := hX.below ((Below.refl w2.heap.size w2).drew)
  have HCLK := Lib.hid (CalD.rclock_any hd.md.tb HFT.out HNW.out HT1)
  have HDR := Lib.hid hd
  have y9 : w2.drew.cell? ⟨C, 9, none⟩ = some (.int .u64 (k.nw : Int)) := x9
  clear hX hd
  go_upto_region 4 with fail
  go_region_held3 (fun W => W.cell? ⟨C, 9, none⟩ = some (.int .u64 (k.nw : Int)))
    (first
      | exact y9
      | exact X3.out.cx.c9)
    (first
      | (go_at_call 29
         (with_reducible refine HCLK.out.mono ?_)
         rintro e w3 ⟨rfl, hleft⟩
         obtain ⟨vR1, hX3⟩ := HDR.out.sess hleft
         have X3 := Lib.hid hX3
         clear hleft hX3))
  clear x0 x1 x2 x3 x4 x5 x6 x7 x8 x9 hCl hpr y9
  obtain ⟨x0, x1, x2, x3, x4, x5, x6, x7, x8, x9⟩ := X3.out.cx.all
  have hCl := X3.out.cx.lt
  have hpr := X3.out.md.plt
  have hpx := X3.out.px
  obtain ⟨p0, p1, p2⟩ : _ ∧ _ ∧ _ := ⟨hpx.c0, hpx.c1, hpx.c2⟩
  have pf := hpx.free
  have hPl := hpx.lt
  clear hpx
  have HF := Lib.hid (dfind_no X3.out.md k.sg HSI.out)
  go_wp2_with fail
  with_reducible refine HF.out.mono ?_
  rintro e w4 ⟨rfl, rfl⟩
  go_upto_region 17 with fail
  have hX3d := X3.out.below ((Below.refl w4.heap.size w4).drew)
  have X3d := Lib.hid hX3d
  have hX3a := (X3.out.below ((Below.refl w4.heap.size w4).alloc (Nat.le_refl _) (.cells #[.int .i64 0, .int .u64 0, .int .u64 0] 32))).below (Below.refl _ _).drew
  have X3a := Lib.hid hX3a
  clear hX3d hX3a
  have HBG := Lib.hid (fun W (X : Cx B w W p P C vR vI vS vR1 vI vS ⟨t1, m.l⟩ hs A n c k) => CalD.rbeg_any X.md.tb hG1 k.ss HSQ.out HT2 HY HB)
  unfold Rws.ryV at HBG
  go_cut [12, 13] from 83 to 93 (fun dd ff wx => ∃ vR2 D, dd = .pointer (some ⟨D, 0, none⟩) ∧ ff = .bool true ∧ Hid (Cx B w wx p P C vR vI vS vR2 vI vS ⟨t2, m.l⟩ hs A n c k) ∧ Hid (Box3 wx D (.int .i64 y0) (.int .u64 (y1 : Int)) (.int .u64 (y2 : Int))) ∧ Hid (Clr w p P C vR2 vI vS hs A n D))
  case first =>
    go_region_held3 (fun W => W.cell? ⟨C, 1, none⟩ = some (.int .u64 (k.ss : Int)) ∧ W.cell? ⟨C, 2, none⟩ = some (.int .u64 (k.sq : Int)))
      (first
        | exact ⟨X3d.out.cx.c1, X3d.out.cx.c2⟩
        | exact ⟨X3a.out.cx.c1, X3a.out.cx.c2⟩
        | exact ⟨X4.out.cx.c1, X4.out.cx.c2⟩
        | exact ⟨X5.out.cx.c1, X5.out.cx.c2⟩
        | (rw [HW6.out]; exact ⟨X6.out.cx.c1, X6.out.cx.c2⟩))
      (first
        | (go_at_call 34
           (with_reducible refine (HBG.out _ X3d.out).mono ?_)
           rintro e w5 ⟨rfl, hleft⟩
           obtain ⟨vR2, hX4⟩ := X3d.out.sess hleft
           obtain ⟨hX5, hQ5, hR, w6, HW6, hX6, hQ6⟩ := ApG.Cx.fin1 hX4 (.int .i64 y0) (.int .u64 (y1 : Int)) (.int .u64 (y2 : Int))
           have X4 := Lib.hid hX4
           have X5 := Lib.hid hX5
           have X6 := Lib.hid hX6
           have R6 := Lib.hid hR
           have Q6 := Lib.hid hQ6
           have z0 := hQ5.c0
           have z1 := hQ5.c1
           have z2 := hQ5.c2
           have zf := hQ5.free
           have zl := hQ5.lt
           clear hleft hX4 hX5 hQ5 hR hX6 hQ6)
        | (go_at_call 34
           (with_reducible refine (HBG.out _ X3a.out).mono ?_)
           rintro e w5 ⟨rfl, hleft⟩
           obtain ⟨vR2, hX4, hQ5, hR, w6, HW6, hX6, hQ6⟩ := ApG.Cx.fin2 X3.out hleft (.int .i64 y0) (.int .u64 (y1 : Int)) (.int .u64 (y2 : Int))
           have X4 := Lib.hid hX4
           have X6 := Lib.hid hX6
           have R6 := Lib.hid hR
           have Q6 := Lib.hid hQ6
           have z0 := hQ5.c0
           have z1 := hQ5.c1
           have z2 := hQ5.c2
           have zf := hQ5.free
           have zl := hQ5.lt
           clear hleft hX4 hQ5 hR hX6 hQ6))
    all_goals
      go_wp2_with fail
      go_meet
      rw [HW6.out]
      exact ⟨_, _, rfl, rfl, X6, Q6, R6⟩
  obtain ⟨vR2, D, rfl, rfl, X6, Q6, R6⟩ := hcut
  clear x0 x1 x2 x3 x4 x5 x6 x7 x8 x9 hCl hpr p0 p1 p2 pf hPl X3d X3a HBG
  obtain ⟨q0, q1, q2⟩ : _ ∧ _ ∧ _ := ⟨Q6.out.c0, Q6.out.c1, Q6.out.c2⟩
  have hql := Q6.out.lt
  have qf := Q6.out.free
  clear q0 q1 q2 hql qf
  obtain ⟨x0, x4⟩ : _ ∧ _ := ⟨X6.out.cx.c0, X6.out.cx.c4⟩
  have hCl := X6.out.cx.lt
  have hpr := X6.out.md.plt
  have m3 := X6.out.md.c3
  try rw [HVI.out] at m3
  obtain ⟨q0, q1, q2⟩ : _ ∧ _ ∧ _ := ⟨Q6.out.c0, Q6.out.c1, Q6.out.c2⟩
  have hql := Q6.out.lt
  have qf := Q6.out.free
  obtain ⟨hX7, hQ7⟩ := ApG.Cx.put X6.out Q6.out R6.out (.int .i64 11) (.int .u64 0) (.int .u64 0)
  obtain ⟨w7, hw7⟩ : ∃ w7, (((wc.setCell ⟨D, 0, none⟩ (.int .i64 11)).setCell ⟨D, 1, none⟩ (.int .u64 0)).setCell ⟨D, 2, none⟩ (.int .u64 0)) = w7 := ⟨_, rfl⟩
  rw [hw7] at hX7 hQ7
  have X7 := Lib.hid hX7
  have Q7 := Lib.hid hQ7
  have HW7 := Lib.hid hw7
  clear hX7 hQ7 hw7
  go_upto_region 33 with fail
  rw [HW7.out]
  clear q0 q1 q2 qf hql x0 x4 hCl hpr m3
  have hpr := X7.out.md.plt
  have hXd := X7.out.below ((Below.refl w7.heap.size w7).drew)
  have hQd := Q7.out.below ((Below.refl w7.heap.size w7).drew)
  have hen := CalD.rend_any hXd.md.tb hG2 k.ss HSQ.out ⟨11, 0, 0⟩ HT3 HBF
  unfold Rws.ryV at hen
  simp only at hen
  try rw [show ((0 : Nat) : Int) = 0 from rfl] at hen
  have HEN := Lib.hid hen
  have XD := Lib.hid hXd
  have QD := Lib.hid hQd
  clear hXd hQd hen
  go_region_held3 (fun W => W.cell? ⟨C, 1, none⟩ = some (.int .u64 (k.ss : Int)) ∧ W.cell? ⟨C, 2, none⟩ = some (.int .u64 (k.sq : Int)) ∧ W.cell? ⟨D, 0, none⟩ = some (.int .i64 11) ∧ W.cell? ⟨D, 1, none⟩ = some (.int .u64 0) ∧ W.cell? ⟨D, 2, none⟩ = some (.int .u64 0))
    (first
      | exact ⟨XD.out.cx.c1, XD.out.cx.c2, QD.out.c0, QD.out.c1, QD.out.c2⟩
      | exact ⟨X9.out.cx.c1, X9.out.cx.c2, Q9.out.c0, Q9.out.c1, Q9.out.c2⟩)
    (first
      | (go_at_call 37
         (with_reducible refine HEN.out.mono ?_)
         rintro e w9 ⟨rfl, hleft⟩
         obtain ⟨vR9, hX9, ho9, _⟩ := ApG.Cx.sess2 XD.out hleft
         have hQ9 := QD.out.keep ho9 R6.out.no
         have X9 := Lib.hid hX9
         have Q9 := Lib.hid hQ9
         clear hleft hX9 hQ9 ho9))
  obtain ⟨e0, e1, e2⟩ : _ ∧ _ ∧ _ := ⟨Q9.out.c0, Q9.out.c1, Q9.out.c2⟩
  have hpx := X9.out.px
  obtain ⟨p0, p1, p2⟩ : _ ∧ _ ∧ _ := ⟨hpx.c0, hpx.c1, hpx.c2⟩
  have pf := hpx.free
  have hPl := hpx.lt
  have HZ := Lib.hid (hpx.set (.int .i64 11) (.int .u64 0) (.int .u64 0)).1
  have HE := Lib.hid (X9.out.ends (.int .i64 11) (.int .u64 0) (.int .u64 0))
  clear hpx
  go_wp2
  refine bodyPost_ret (res1y (q := 4) rfl _ rfl HZ.out) rfl ?_
  exact ⟨rfl, HE.out⟩
set_option maxRecDepth 100000 in
set_option maxHeartbeats 16000000 in
theorem dap_gone {B : Nat} {w : World} {p : Nat} {vR vI vS : Value} {m : Mc} {hs : List Hs} (h : MD B w p vR vI vS m hs) (hf : Fit m) (s : ByteArray) (hsz : s.size ≤ 9223372036854775807) {k : Cm} (hk : dec s = k) (hz : decZ s = 0) (hm : mayB k = true) (hfin : Cmd.Fin k) (h1 : k.k ≠ 1) (h4 : k.k ≠ 4) (hb : begF (clock m.t k.nw) k.ss k.sq = true) (h2 : k.k ≠ 2) (hsi : seekS m.l k.sg = none) :
    Calls Tryz.prog 12 #[.pointer (some ⟨p, 0, none⟩), .string s] w fun e w' => e = .returned (ryV (yE 43)) ∧ LeftM B w p vR vI vS ⟨endT (begT (clock m.t k.nw) k.ss) k.ss k.sq (yE 43), m.l⟩ w' := by
  have HD := Lib.hid (rdec_lit hsz hk hz)
  obtain ⟨t1, ht1⟩ : ∃ t, clock m.t k.nw = t := ⟨_, rfl⟩
  have hG1 : Sane t1 := by rw [← ht1]; exact hf.tb.clock hfin.nw
  have HT1 := Lib.hid ht1
  have HNW : Hid (U k.nw) := hfin.nw
  have HFT := Lib.hid hf.tb
  have H := Lib.hid h
  have hpl := h.plt
  have hP := Box3.new w (.int .i64 0) (.int .u64 0) (.int .u64 0)
  have hb0 : Below w.heap.size w (w.alloc (.cells #[.int .i64 0, .int .u64 0, .int .u64 0] 32)) := (Below.refl _ _).alloc (Nat.le_refl _) _
  obtain ⟨w0, hw0⟩ : ∃ x, w.alloc (.cells #[.int .i64 0, .int .u64 0, .int .u64 0] 32) = x := ⟨_, rfl⟩
  rw [hw0] at hP hb0
  have HW0 := Lib.hid hw0
  have HP := Lib.hid hP
  have HB0 := Lib.hid hb0
  rw [ht1]
  rw [ht1] at hb
  have k1 : (k.k == 1) = false := by simpa using h1
  have k4 : (k.k == 4) = false := by simpa using h4
  have k2 : (k.k == 2) = false := by simpa using h2
  clear h1 h4
  obtain ⟨t2, ht2⟩ : ∃ t, begT t1 k.ss = t := ⟨_, rfl⟩
  obtain ⟨y0, y1, y2, hy⟩ : ∃ a b c, begY t1 k.ss k.sq = ⟨a, b, c⟩ := ⟨_, _, _, rfl⟩
  rw [ht2]
  have HT2 := Lib.hid ht2
  have HY := Lib.hid hy
  have HB := Lib.hid hb
  have HSQ : Hid (U k.sq) := hfin.sq
  clear ht2 hy hb
  have hG2 : Sane t2 := by rw [← HT2.out]; exact hG1.beg k.ss
  obtain ⟨t3, ht3⟩ : ∃ t, endT t2 k.ss k.sq (yE 43) = t := ⟨_, rfl⟩
  obtain ⟨bf, hbf⟩ : ∃ t, endF t2 k.ss k.sq = t := ⟨_, rfl⟩
  rw [ht3]
  have HT3 := Lib.hid ht3
  have HBF := Lib.hid hbf
  clear ht3 hbf
  clear h2
  have HSI := Lib.hid hsi
  clear hsi
  clear hw0 hP hb0 ht1 hk hz h hf hfin hsz
  go_enter Tryz.func12, Tryz.ntmps12
  go_wp2_with fail
  rw [HW0.out]
  with_reducible refine (HD.out w0).mono ?_
  rintro e w1 ⟨A, n, c, rfl, hA, hb1, hnew⟩
  obtain ⟨w2, HW2, hx, hA2, hb2⟩ := cm_box c hA
  have hX := cx_new H.out HP.out HB0.out hb1 hA trivial hx hA2 hb2 (fun hn ad e => by have := hnew hn ad e; have := HB0.out.size; omega)
  obtain ⟨P, hPe⟩ : ∃ P, w.heap.size = P := ⟨_, rfl⟩
  obtain ⟨C, hCe⟩ : ∃ C, w1.heap.size = C := ⟨_, rfl⟩
  rw [hPe, hCe] at hX
  clear hA hb1 hnew hx hA2 hb2
  unfold CmdAt.cmV
  go_upto_region 2 with fail
  rw [HW2.out]
  clear hPe hCe
  have X2 := Lib.hid hX
  obtain ⟨x0, x1, x2, x3, x4, x5, x6, x7, x8, x9⟩ := hX.cx.all
  have hCl := hX.cx.lt
  have hpr := hX.md.plt
  have hd := hX.below ((Below.refl w2.heap.size w2).drew)
  have HCLK := Lib.hid (CalD.rclock_any hd.md.tb HFT.out HNW.out HT1)
  have HDR := Lib.hid hd
  have y9 : w2.drew.cell? ⟨C, 9, none⟩ = some (.int .u64 (k.nw : Int)) := x9
  clear hX hd
  go_upto_region 4 with fail
  go_region_held3 (fun W => W.cell? ⟨C, 9, none⟩ = some (.int .u64 (k.nw : Int)))
    (first
      | exact y9
      | exact X3.out.cx.c9)
    (first
      | (go_at_call 29
         (with_reducible refine HCLK.out.mono ?_)
         rintro e w3 ⟨rfl, hleft⟩
         obtain ⟨vR1, hX3⟩ := HDR.out.sess hleft
         have X3 := Lib.hid hX3
         clear hleft hX3))
  clear x0 x1 x2 x3 x4 x5 x6 x7 x8 x9 hCl hpr y9
  obtain ⟨x0, x1, x2, x3, x4, x5, x6, x7, x8, x9⟩ := X3.out.cx.all
  have hCl := X3.out.cx.lt
  have hpr := X3.out.md.plt
  have hpx := X3.out.px
  obtain ⟨p0, p1, p2⟩ : _ ∧ _ ∧ _ := ⟨hpx.c0, hpx.c1, hpx.c2⟩
  have pf := hpx.free
  have hPl := hpx.lt
  clear hpx
  have HF := Lib.hid (dfind_no X3.out.md k.sg HSI.out)
  go_wp2_with fail
  with_reducible refine HF.out.mono ?_
  rintro e w4 ⟨rfl, rfl⟩
  go_upto_region 17 with fail
  have hX3d := X3.out.below ((Below.refl w4.heap.size w4).drew)
  have X3d := Lib.hid hX3d
  have hX3a := (X3.out.below ((Below.refl w4.heap.size w4).alloc (Nat.le_refl _) (.cells #[.int .i64 0, .int .u64 0, .int .u64 0] 32))).below (Below.refl _ _).drew
  have X3a := Lib.hid hX3a
  clear hX3d hX3a
  have HBG := Lib.hid (fun W (X : Cx B w W p P C vR vI vS vR1 vI vS ⟨t1, m.l⟩ hs A n c k) => CalD.rbeg_any X.md.tb hG1 k.ss HSQ.out HT2 HY HB)
  unfold Rws.ryV at HBG
  go_cut [12, 13] from 83 to 93 (fun dd ff wx => ∃ vR2 D, dd = .pointer (some ⟨D, 0, none⟩) ∧ ff = .bool true ∧ Hid (Cx B w wx p P C vR vI vS vR2 vI vS ⟨t2, m.l⟩ hs A n c k) ∧ Hid (Box3 wx D (.int .i64 y0) (.int .u64 (y1 : Int)) (.int .u64 (y2 : Int))) ∧ Hid (Clr w p P C vR2 vI vS hs A n D))
  case first =>
    go_region_held3 (fun W => W.cell? ⟨C, 1, none⟩ = some (.int .u64 (k.ss : Int)) ∧ W.cell? ⟨C, 2, none⟩ = some (.int .u64 (k.sq : Int)))
      (first
        | exact ⟨X3d.out.cx.c1, X3d.out.cx.c2⟩
        | exact ⟨X3a.out.cx.c1, X3a.out.cx.c2⟩
        | exact ⟨X4.out.cx.c1, X4.out.cx.c2⟩
        | exact ⟨X5.out.cx.c1, X5.out.cx.c2⟩
        | (rw [HW6.out]; exact ⟨X6.out.cx.c1, X6.out.cx.c2⟩))
      (first
        | (go_at_call 34
           (with_reducible refine (HBG.out _ X3d.out).mono ?_)
           rintro e w5 ⟨rfl, hleft⟩
           obtain ⟨vR2, hX4⟩ := X3d.out.sess hleft
           obtain ⟨hX5, hQ5, hR, w6, HW6, hX6, hQ6⟩ := ApG.Cx.fin1 hX4 (.int .i64 y0) (.int .u64 (y1 : Int)) (.int .u64 (y2 : Int))
           have X4 := Lib.hid hX4
           have X5 := Lib.hid hX5
           have X6 := Lib.hid hX6
           have R6 := Lib.hid hR
           have Q6 := Lib.hid hQ6
           have z0 := hQ5.c0
           have z1 := hQ5.c1
           have z2 := hQ5.c2
           have zf := hQ5.free
           have zl := hQ5.lt
           clear hleft hX4 hX5 hQ5 hR hX6 hQ6)
        | (go_at_call 34
           (with_reducible refine (HBG.out _ X3a.out).mono ?_)
           rintro e w5 ⟨rfl, hleft⟩
           obtain ⟨vR2, hX4, hQ5, hR, w6, HW6, hX6, hQ6⟩ := ApG.Cx.fin2 X3.out hleft (.int .i64 y0) (.int .u64 (y1 : Int)) (.int .u64 (y2 : Int))
           have X4 := Lib.hid hX4
           have X6 := Lib.hid hX6
           have R6 := Lib.hid hR
           have Q6 := Lib.hid hQ6
           have z0 := hQ5.c0
           have z1 := hQ5.c1
           have z2 := hQ5.c2
           have zf := hQ5.free
           have zl := hQ5.lt
           clear hleft hX4 hQ5 hR hX6 hQ6))
    all_goals
      go_wp2_with fail
      go_meet
      rw [HW6.out]
      exact ⟨_, _, rfl, rfl, X6, Q6, R6⟩
  obtain ⟨vR2, D, rfl, rfl, X6, Q6, R6⟩ := hcut
  clear x0 x1 x2 x3 x4 x5 x6 x7 x8 x9 hCl hpr p0 p1 p2 pf hPl X3d X3a HBG
  obtain ⟨q0, q1, q2⟩ : _ ∧ _ ∧ _ := ⟨Q6.out.c0, Q6.out.c1, Q6.out.c2⟩
  have hql := Q6.out.lt
  have qf := Q6.out.free
  clear q0 q1 q2 hql qf
  obtain ⟨x0, x4⟩ : _ ∧ _ := ⟨X6.out.cx.c0, X6.out.cx.c4⟩
  have hCl := X6.out.cx.lt
  have hpr := X6.out.md.plt
  have m3 := X6.out.md.c3
  try rw [HVI.out] at m3
  obtain ⟨q0, q1, q2⟩ : _ ∧ _ ∧ _ := ⟨Q6.out.c0, Q6.out.c1, Q6.out.c2⟩
  have hql := Q6.out.lt
  have qf := Q6.out.free
  obtain ⟨hX7, hQ7⟩ := ApG.Cx.put X6.out Q6.out R6.out (.int .i64 43) (.int .u64 0) (.int .u64 0)
  obtain ⟨w7, hw7⟩ : ∃ w7, (((wc.setCell ⟨D, 0, none⟩ (.int .i64 43)).setCell ⟨D, 1, none⟩ (.int .u64 0)).setCell ⟨D, 2, none⟩ (.int .u64 0)) = w7 := ⟨_, rfl⟩
  rw [hw7] at hX7 hQ7
  have X7 := Lib.hid hX7
  have Q7 := Lib.hid hQ7
  have HW7 := Lib.hid hw7
  clear hX7 hQ7 hw7
  go_upto_region 33 with fail
  rw [HW7.out]
  clear q0 q1 q2 qf hql x0 x4 hCl hpr m3
  have hpr := X7.out.md.plt
  have hXd := X7.out.below ((Below.refl w7.heap.size w7).drew)
  have hQd := Q7.out.below ((Below.refl w7.heap.size w7).drew)
  have hen := CalD.rend_any hXd.md.tb hG2 k.ss HSQ.out ⟨43, 0, 0⟩ HT3 HBF
  unfold Rws.ryV at hen
  simp only at hen
  try rw [show ((0 : Nat) : Int) = 0 from rfl] at hen
  have HEN := Lib.hid hen
  have XD := Lib.hid hXd
  have QD := Lib.hid hQd
  clear hXd hQd hen
  go_region_held3 (fun W => W.cell? ⟨C, 1, none⟩ = some (.int .u64 (k.ss : Int)) ∧ W.cell? ⟨C, 2, none⟩ = some (.int .u64 (k.sq : Int)) ∧ W.cell? ⟨D, 0, none⟩ = some (.int .i64 43) ∧ W.cell? ⟨D, 1, none⟩ = some (.int .u64 0) ∧ W.cell? ⟨D, 2, none⟩ = some (.int .u64 0))
    (first
      | exact ⟨XD.out.cx.c1, XD.out.cx.c2, QD.out.c0, QD.out.c1, QD.out.c2⟩
      | exact ⟨X9.out.cx.c1, X9.out.cx.c2, Q9.out.c0, Q9.out.c1, Q9.out.c2⟩)
    (first
      | (go_at_call 37
         (with_reducible refine HEN.out.mono ?_)
         rintro e w9 ⟨rfl, hleft⟩
         obtain ⟨vR9, hX9, ho9, _⟩ := ApG.Cx.sess2 XD.out hleft
         have hQ9 := QD.out.keep ho9 R6.out.no
         have X9 := Lib.hid hX9
         have Q9 := Lib.hid hQ9
         clear hleft hX9 hQ9 ho9))
  obtain ⟨e0, e1, e2⟩ : _ ∧ _ ∧ _ := ⟨Q9.out.c0, Q9.out.c1, Q9.out.c2⟩
  have hpx := X9.out.px
  obtain ⟨p0, p1, p2⟩ : _ ∧ _ ∧ _ := ⟨hpx.c0, hpx.c1, hpx.c2⟩
  have pf := hpx.free
  have hPl := hpx.lt
  have HZ := Lib.hid (hpx.set (.int .i64 43) (.int .u64 0) (.int .u64 0)).1
  have HE := Lib.hid (X9.out.ends (.int .i64 43) (.int .u64 0) (.int .u64 0))
  clear hpx
  go_wp2
  refine bodyPost_ret (res1y (q := 4) rfl _ rfl HZ.out) rfl ?_
  exact ⟨rfl, HE.out⟩
set_option maxRecDepth 100000 in
set_option maxHeartbeats 16000000 in
theorem dap_ask {B : Nat} {w : World} {p : Nat} {vR vI vS : Value} {m : Mc} {hs : List Hs} (h : MD B w p vR vI vS m hs) (hf : Fit m) (s : ByteArray) (hsz : s.size ≤ 9223372036854775807) {k : Cm} (hk : dec s = k) (hz : decZ s = 0) (hm : mayB k = true) (hfin : Cmd.Fin k) (h1 : k.k ≠ 1) (h4 : k.k ≠ 4) (hb : begF (clock m.t k.nw) k.ss k.sq = true) {i : Nat} {y : Nat × Sg} (hsi : seekS m.l k.sg = some i) (hy : m.l[i]? = some y) (h2 : k.k ≠ 2) (h3 : k.k ≠ 3) :
    Calls Tryz.prog 12 #[.pointer (some ⟨p, 0, none⟩), .string s] w fun e w' => e = .returned (ryV (told y.2)) ∧ LeftM B w p vR vI vS ⟨endT (begT (clock m.t k.nw) k.ss) k.ss k.sq (told y.2), m.l⟩ w' := by
  have HD := Lib.hid (rdec_lit hsz hk hz)
  obtain ⟨t1, ht1⟩ : ∃ t, clock m.t k.nw = t := ⟨_, rfl⟩
  have hG1 : Sane t1 := by rw [← ht1]; exact hf.tb.clock hfin.nw
  have HT1 := Lib.hid ht1
  have HNW : Hid (U k.nw) := hfin.nw
  have HFT := Lib.hid hf.tb
  have H := Lib.hid h
  have hpl := h.plt
  have hP := Box3.new w (.int .i64 0) (.int .u64 0) (.int .u64 0)
  have hb0 : Below w.heap.size w (w.alloc (.cells #[.int .i64 0, .int .u64 0, .int .u64 0] 32)) := (Below.refl _ _).alloc (Nat.le_refl _) _
  obtain ⟨w0, hw0⟩ : ∃ x, w.alloc (.cells #[.int .i64 0, .int .u64 0, .int .u64 0] 32) = x := ⟨_, rfl⟩
  rw [hw0] at hP hb0
  have HW0 := Lib.hid hw0
  have HP := Lib.hid hP
  have HB0 := Lib.hid hb0
  rw [ht1]
  rw [ht1] at hb
  have k1 : (k.k == 1) = false := by simpa using h1
  have k4 : (k.k == 4) = false := by simpa using h4
  have k2 : (k.k == 2) = false := by simpa using h2
  have k3 : (k.k == 3) = false := by simpa using h3
  clear h2 h3
  clear h1 h4
  obtain ⟨t2, ht2⟩ : ∃ t, begT t1 k.ss = t := ⟨_, rfl⟩
  obtain ⟨y0, y1, y2, hy⟩ : ∃ a b c, begY t1 k.ss k.sq = ⟨a, b, c⟩ := ⟨_, _, _, rfl⟩
  rw [ht2]
  have HT2 := Lib.hid ht2
  have HY := Lib.hid hy
  have HB := Lib.hid hb
  have HSQ : Hid (U k.sq) := hfin.sq
  clear ht2 hy hb
  have hG2 : Sane t2 := by rw [← HT2.out]; exact hG1.beg k.ss
  have hyk : y.1 = k.sg := by
    obtain ⟨x, a, b, _⟩ := seekS_some hsi
    rw [hy] at a
    cases a
    exact b
  obtain ⟨g, cS, e, hvS, hi, hvg, he, hes, _, _, hgl, _⟩ := row_at h hy
  obtain ⟨yi, ys⟩ := y
  simp only at hes hyk
  subst hes
  obtain ⟨eA, ec, el, st, cu, fa⟩ := e
  obtain ⟨L, hL⟩ : ∃ L, m.l.length = L := ⟨_, rfl⟩
  rw [hL] at hvS hi
  have hiL : (i : Int) < (L : Int) := by omega
  have hi0 : (0 : Int) ≤ (i : Int) := by omega
  have hin : ¬ ((i : Int) < 0) := by omega
  have HSI := Lib.hid hsi
  have HY0 := Lib.hid hy
  have HE0 := Lib.hid he
  have HYK := Lib.hid hyk
  have HVS := Lib.hid hvS
  have HG := Lib.hid hvg
  clear hsi hy he hyk hi hL hgl hvS hvg
  obtain ⟨t3, ht3⟩ : ∃ t, endT t2 k.ss k.sq (told ⟨el, st, cu, fa⟩) = t := ⟨_, rfl⟩
  obtain ⟨bf, hbf⟩ : ∃ t, endF t2 k.ss k.sq = t := ⟨_, rfl⟩
  rw [ht3]
  unfold told at ht3
  simp only at ht3
  have HT3 := Lib.hid ht3
  have HBF := Lib.hid hbf
  clear ht3 hbf
  clear hw0 hP hb0 ht1 hk hz h hf hfin hsz
  go_enter Tryz.func12, Tryz.ntmps12
  go_wp2_with fail
  rw [HW0.out]
  with_reducible refine (HD.out w0).mono ?_
  rintro e w1 ⟨A, n, c, rfl, hA, hb1, hnew⟩
  obtain ⟨w2, HW2, hx, hA2, hb2⟩ := cm_box c hA
  have hX := cx_new H.out HP.out HB0.out hb1 hA trivial hx hA2 hb2 (fun hn ad e => by have := hnew hn ad e; have := HB0.out.size; omega)
  obtain ⟨P, hPe⟩ : ∃ P, w.heap.size = P := ⟨_, rfl⟩
  obtain ⟨C, hCe⟩ : ∃ C, w1.heap.size = C := ⟨_, rfl⟩
  rw [hPe, hCe] at hX
  clear hA hb1 hnew hx hA2 hb2
  unfold CmdAt.cmV
  go_upto_region 2 with fail
  rw [HW2.out]
  clear hPe hCe
  have X2 := Lib.hid hX
  obtain ⟨x0, x1, x2, x3, x4, x5, x6, x7, x8, x9⟩ := hX.cx.all
  have hCl := hX.cx.lt
  have hpr := hX.md.plt
  have hd := hX.below ((Below.refl w2.heap.size w2).drew)
  have HCLK := Lib.hid (CalD.rclock_any hd.md.tb HFT.out HNW.out HT1)
  have HDR := Lib.hid hd
  have y9 : w2.drew.cell? ⟨C, 9, none⟩ = some (.int .u64 (k.nw : Int)) := x9
  clear hX hd
  go_upto_region 4 with fail
  go_region_held3 (fun W => W.cell? ⟨C, 9, none⟩ = some (.int .u64 (k.nw : Int)))
    (first
      | exact y9
      | exact X3.out.cx.c9)
    (first
      | (go_at_call 29
         (with_reducible refine HCLK.out.mono ?_)
         rintro e w3 ⟨rfl, hleft⟩
         obtain ⟨vR1, hX3⟩ := HDR.out.sess hleft
         have X3 := Lib.hid hX3
         clear hleft hX3))
  clear x0 x1 x2 x3 x4 x5 x6 x7 x8 x9 hCl hpr y9
  obtain ⟨x0, x1, x2, x3, x4, x5, x6, x7, x8, x9⟩ := X3.out.cx.all
  have hCl := X3.out.cx.lt
  have hpr := X3.out.md.plt
  have hpx := X3.out.px
  obtain ⟨p0, p1, p2⟩ : _ ∧ _ ∧ _ := ⟨hpx.c0, hpx.c1, hpx.c2⟩
  have pf := hpx.free
  have hPl := hpx.lt
  clear hpx
  have HF := Lib.hid (dfind_yes X3.out.md k.sg HSI.out)
  go_wp2_with fail
  with_reducible refine HF.out.mono ?_
  rintro e w4 ⟨rfl, rfl⟩
  go_upto_region 17 with fail
  have hX3d := X3.out.below ((Below.refl w4.heap.size w4).drew)
  have X3d := Lib.hid hX3d
  have hX3a := (X3.out.below ((Below.refl w4.heap.size w4).alloc (Nat.le_refl _) (.cells #[.int .i64 0, .int .u64 0, .int .u64 0] 32))).below (Below.refl _ _).drew
  have X3a := Lib.hid hX3a
  clear hX3d hX3a
  have HBG := Lib.hid (fun W (X : Cx B w W p P C vR vI vS vR1 vI vS ⟨t1, m.l⟩ hs A n c k) => CalD.rbeg_any X.md.tb hG1 k.ss HSQ.out HT2 HY HB)
  unfold Rws.ryV at HBG
  go_cut [12, 13] from 83 to 93 (fun dd ff wx => ∃ vR2 D, dd = .pointer (some ⟨D, 0, none⟩) ∧ ff = .bool true ∧ Hid (Cx B w wx p P C vR vI vS vR2 vI vS ⟨t2, m.l⟩ hs A n c k) ∧ Hid (Box3 wx D (.int .i64 y0) (.int .u64 (y1 : Int)) (.int .u64 (y2 : Int))) ∧ Hid (Clr w p P C vR2 vI vS hs A n D))
  case first =>
    go_region_held3 (fun W => W.cell? ⟨C, 1, none⟩ = some (.int .u64 (k.ss : Int)) ∧ W.cell? ⟨C, 2, none⟩ = some (.int .u64 (k.sq : Int)))
      (first
        | exact ⟨X3d.out.cx.c1, X3d.out.cx.c2⟩
        | exact ⟨X3a.out.cx.c1, X3a.out.cx.c2⟩
        | exact ⟨X4.out.cx.c1, X4.out.cx.c2⟩
        | exact ⟨X5.out.cx.c1, X5.out.cx.c2⟩
        | (rw [HW6.out]; exact ⟨X6.out.cx.c1, X6.out.cx.c2⟩))
      (first
        | (go_at_call 34
           (with_reducible refine (HBG.out _ X3d.out).mono ?_)
           rintro e w5 ⟨rfl, hleft⟩
           obtain ⟨vR2, hX4⟩ := X3d.out.sess hleft
           obtain ⟨hX5, hQ5, hR, w6, HW6, hX6, hQ6⟩ := ApG.Cx.fin1 hX4 (.int .i64 y0) (.int .u64 (y1 : Int)) (.int .u64 (y2 : Int))
           have X4 := Lib.hid hX4
           have X5 := Lib.hid hX5
           have X6 := Lib.hid hX6
           have R6 := Lib.hid hR
           have Q6 := Lib.hid hQ6
           have z0 := hQ5.c0
           have z1 := hQ5.c1
           have z2 := hQ5.c2
           have zf := hQ5.free
           have zl := hQ5.lt
           clear hleft hX4 hX5 hQ5 hR hX6 hQ6)
        | (go_at_call 34
           (with_reducible refine (HBG.out _ X3a.out).mono ?_)
           rintro e w5 ⟨rfl, hleft⟩
           obtain ⟨vR2, hX4, hQ5, hR, w6, HW6, hX6, hQ6⟩ := ApG.Cx.fin2 X3.out hleft (.int .i64 y0) (.int .u64 (y1 : Int)) (.int .u64 (y2 : Int))
           have X4 := Lib.hid hX4
           have X6 := Lib.hid hX6
           have R6 := Lib.hid hR
           have Q6 := Lib.hid hQ6
           have z0 := hQ5.c0
           have z1 := hQ5.c1
           have z2 := hQ5.c2
           have zf := hQ5.free
           have zl := hQ5.lt
           clear hleft hX4 hQ5 hR hX6 hQ6))
    all_goals
      go_wp2_with fail
      go_meet
      rw [HW6.out]
      exact ⟨_, _, rfl, rfl, X6, Q6, R6⟩
  obtain ⟨vR2, D, rfl, rfl, X6, Q6, R6⟩ := hcut
  clear x0 x1 x2 x3 x4 x5 x6 x7 x8 x9 hCl hpr p0 p1 p2 pf hPl X3d X3a HBG
  obtain ⟨q0, q1, q2⟩ : _ ∧ _ ∧ _ := ⟨Q6.out.c0, Q6.out.c1, Q6.out.c2⟩
  have hql := Q6.out.lt
  have qf := Q6.out.free
  clear q0 q1 q2 hql qf
  obtain ⟨hr6, _, rl, rf⟩ := row_again X6.out.md HY0.out HG.out HE0.out
  obtain ⟨r0, r1, r2, r3⟩ : _ ∧ _ ∧ _ ∧ _ := ⟨hr6.c0, hr6.c1, hr6.c2, hr6.c3⟩
  have x0 := X6.out.cx.c0
  have hCl := X6.out.cx.lt
  have hpr := X6.out.md.plt
  have v4 := X6.out.md.c4
  rw [HVS.out] at v4
  have HTD := Lib.hid (dtold_any eA ec ⟨el, st, cu, fa⟩ wc)
  unfold SagAt.sgV Rws.ryV told at HTD
  simp only at HTD
  clear hr6 rf
  go_upto_region 22 with fail

  go_wp2_with fail
  with_reducible refine HTD.out.mono ?_
  rintro e w8 ⟨rfl, hb8⟩
  have hX8 := X6.out.below hb8
  have hQ8 := Q6.out.below hb8
  clear r0 r1 r2 r3 x0 hCl hpr v4 rl
  have hpr := hX8.md.plt
  obtain ⟨q0, q1, q2⟩ : _ ∧ _ ∧ _ := ⟨hQ8.c0, hQ8.c1, hQ8.c2⟩
  have hql := hQ8.lt
  have qf := hQ8.free
  obtain ⟨hX7, hQ7⟩ := ApG.Cx.put hX8 hQ8 R6.out (.int .i64 0) (.int .u64 (Pln.u64 st : Int)) (.int .u64 (Pln.u64 cu : Int))
  obtain ⟨w7, hw7⟩ : ∃ w7, (((w8.setCell ⟨D, 0, none⟩ (.int .i64 0)).setCell ⟨D, 1, none⟩ (.int .u64 (Pln.u64 st : Int))).setCell ⟨D, 2, none⟩ (.int .u64 (Pln.u64 cu : Int))) = w7 := ⟨_, rfl⟩
  rw [hw7] at hX7 hQ7
  have X7 := Lib.hid hX7
  have Q7 := Lib.hid hQ7
  have HW7 := Lib.hid hw7
  clear hX7 hQ7 hw7 hX8 hQ8 hb8
  go_upto_region 33 with fail
  rw [HW7.out]
  clear q0 q1 q2 qf hql hpr
  have hpr := X7.out.md.plt
  have hXd := X7.out.below ((Below.refl w7.heap.size w7).drew)
  have hQd := Q7.out.below ((Below.refl w7.heap.size w7).drew)
  have hen := CalD.rend_any hXd.md.tb hG2 k.ss HSQ.out ⟨0, Pln.u64 st, Pln.u64 cu⟩ HT3 HBF
  unfold Rws.ryV at hen
  simp only at hen
  try rw [show ((0 : Nat) : Int) = 0 from rfl] at hen
  have HEN := Lib.hid hen
  have XD := Lib.hid hXd
  have QD := Lib.hid hQd
  clear hXd hQd hen
  go_region_held3 (fun W => W.cell? ⟨C, 1, none⟩ = some (.int .u64 (k.ss : Int)) ∧ W.cell? ⟨C, 2, none⟩ = some (.int .u64 (k.sq : Int)) ∧ W.cell? ⟨D, 0, none⟩ = some (.int .i64 0) ∧ W.cell? ⟨D, 1, none⟩ = some (.int .u64 (Pln.u64 st : Nat)) ∧ W.cell? ⟨D, 2, none⟩ = some (.int .u64 (Pln.u64 cu : Nat)))
    (first
      | exact ⟨XD.out.cx.c1, XD.out.cx.c2, QD.out.c0, QD.out.c1, QD.out.c2⟩
      | exact ⟨X9.out.cx.c1, X9.out.cx.c2, Q9.out.c0, Q9.out.c1, Q9.out.c2⟩)
    (first
      | (go_at_call 37
         (with_reducible refine HEN.out.mono ?_)
         rintro e w9 ⟨rfl, hleft⟩
         obtain ⟨vR9, hX9, ho9, _⟩ := ApG.Cx.sess2 XD.out hleft
         have hQ9 := QD.out.keep ho9 R6.out.no
         have X9 := Lib.hid hX9
         have Q9 := Lib.hid hQ9
         clear hleft hX9 hQ9 ho9))
  obtain ⟨e0, e1, e2⟩ : _ ∧ _ ∧ _ := ⟨Q9.out.c0, Q9.out.c1, Q9.out.c2⟩
  have hpx := X9.out.px
  obtain ⟨p0, p1, p2⟩ : _ ∧ _ ∧ _ := ⟨hpx.c0, hpx.c1, hpx.c2⟩
  have pf := hpx.free
  have hPl := hpx.lt
  have HZ := Lib.hid (hpx.set (.int .i64 0) (.int .u64 (Pln.u64 st : Nat)) (.int .u64 (Pln.u64 cu : Nat))).1
  have HE := Lib.hid (X9.out.ends (.int .i64 0) (.int .u64 (Pln.u64 st : Nat)) (.int .u64 (Pln.u64 cu : Nat)))
  clear hpx
  go_wp2
  refine bodyPost_ret (res1y (q := 4) rfl _ rfl HZ.out) rfl ?_
  exact ⟨rfl, HE.out⟩
end Go.Proofs.YthaepkpmpnofgaaGreat.ApH
