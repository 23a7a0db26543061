/- What the document's Apply answers, walked, a theorem for each way. No statement is proved here. -/
import Derived.Test.YthaepkpmpnofgaaGreatGU
import Derived.Deep.RegionHeld3
import Derived.Deep.CutRange
import Derived.StillTailTactics
set_option linter.unusedVariables false
set_option linter.unusedSimpArgs false
namespace Go.Proofs.YthaepkpmpnofgaaGreat.ApF
open Go.RowKit Go.Proofs.YthaepkpmpnofgaaGreat.Kit Go.Proofs.YthaepkpmpnofgaaGreat.Blocks Go.Proofs.YthaepkpmpnofgaaGreat.Ses Go.Proofs.YthaepkpmpnofgaaGreat.Rws Go.Proofs.YthaepkpmpnofgaaGreat.Boxs Go.Proofs.YthaepkpmpnofgaaGreat.Mch Go.Proofs.YthaepkpmpnofgaaGreat.MatD Go.Proofs.YthaepkpmpnofgaaGreat.PutD Go.Proofs.YthaepkpmpnofgaaGreat.SsnWalkA Go.Proofs.YthaepkpmpnofgaaGreat.ApD Go.Proofs.YthaepkpmpnofgaaGreat.ApE Go.Proofs.YthaepkpmpnofgaaGreat.ApG
open Go.Proofs.YthaepkpmpnofgaaGreat.Sag (Sg outc takes abort aborts)
open Go.Proofs.YthaepkpmpnofgaaGreat.SagAt (At Box4 sgV)
open Go.Proofs.YthaepkpmpnofgaaGreat.RdT (only_s only_b)
open Go.Proofs.YthaepkpmpnofgaaGreat.Cmd (Cm yes dec decZ mayB yes_back)
open Go.Proofs.YthaepkpmpnofgaaGreat.CmdAt (cmV CAt Bx cm_box)

set_option maxRecDepth 100000 in
set_option maxHeartbeats 16000000 in
theorem dap_reg {B : Nat} {w : World} {p : Nat} {vR vI vS : Value} {m : Mc} {hs : List Hs} (h : MD B w p vR vI vS m hs) (hf : Fit m) (s : ByteArray) (hsz : s.size ≤ 9223372036854775807) {k : Cm} (hk : dec s = k) (hz : decZ s = 0) (hm : mayB k = true) (hfin : Cmd.Fin k) (hkk : k.k = 1) :
    Calls Tryz.prog 12 #[.pointer (some ⟨p, 0, none⟩), .string s] w fun e w' => e = .returned (ryV ⟨regE (clock m.t k.nw), regId (clock m.t k.nw), 0⟩) ∧ LeftM B w p vR vI vS ⟨regT (clock m.t k.nw), m.l⟩ w' := by
  have HD := Lib.hid (rdec_lit hsz hk hz)
  obtain ⟨t1, ht1⟩ : ∃ t, clock m.t k.nw = t := ⟨_, rfl⟩
  have hG1 : Sane t1 := by rw [← ht1]; exact hf.tb.clock hfin.nw
  have HT1 := Lib.hid ht1
  have HNW : Hid (U k.nw) := hfin.nw
  have HFT := Lib.hid hf.tb
  have H := Lib.hid h
  have hpl := h.plt
  have hP := Box3.new w (.int .i64 0) (.int .u64 0) (.int .u64 0)
  have hb0 : Below w.heap.size w (w.alloc (.cells #[.int .i64 0, .int .u64 0, .int .u64 0] 32)) := (Below.refl _ _).alloc (Nat.le_refl _) _
  obtain ⟨w0, hw0⟩ : ∃ x, w.alloc (.cells #[.int .i64 0, .int .u64 0, .int .u64 0] 32) = x := ⟨_, rfl⟩
  rw [hw0] at hP hb0
  have HW0 := Lib.hid hw0
  have HP := Lib.hid hP
  have HB0 := Lib.hid hb0
  rw [ht1]
  have k1 : (k.k == 1) = true := by rw [hkk]; rfl
  clear hkk
  obtain ⟨t2, ht2⟩ : ∃ t, regT t1 = t := ⟨_, rfl⟩
  obtain ⟨id, hid⟩ : ∃ t, regId t1 = t := ⟨_, rfl⟩
  obtain ⟨e0, he0⟩ : ∃ t, regE t1 = t := ⟨_, rfl⟩
  rw [ht2, hid, he0]
  have HT2 := Lib.hid ht2
  have HID := Lib.hid hid
  have HE0 := Lib.hid he0
  clear ht2 hid he0
  clear hw0 hP hb0 ht1 hk hz h hf hfin hsz
  go_enter Tryz.func12, Tryz.ntmps12
  go_wp2_with fail
  rw [HW0.out]
  with_reducible refine (HD.out w0).mono ?_
  rintro e w1 ⟨A, n, c, rfl, hA, hb1, hnew⟩
  obtain ⟨w2, HW2, hx, hA2, hb2⟩ := cm_box c hA
  have hX := cx_new H.out HP.out HB0.out hb1 hA trivial hx hA2 hb2 (fun hn ad e => by have := hnew hn ad e; have := HB0.out.size; omega)
  obtain ⟨P, hPe⟩ : ∃ P, w.heap.size = P := ⟨_, rfl⟩
  obtain ⟨C, hCe⟩ : ∃ C, w1.heap.size = C := ⟨_, rfl⟩
  rw [hPe, hCe] at hX
  clear hA hb1 hnew hx hA2 hb2
  unfold CmdAt.cmV
  go_upto_region 2 with fail
  rw [HW2.out]
  clear hPe hCe
  have X2 := Lib.hid hX
  obtain ⟨x0, x1, x2, x3, x4, x5, x6, x7, x8, x9⟩ := hX.cx.all
  have hCl := hX.cx.lt
  have hpr := hX.md.plt
  have hd := hX.below ((Below.refl w2.heap.size w2).drew)
  have HCLK := Lib.hid (CalD.rclock_any hd.md.tb HFT.out HNW.out HT1)
  have HDR := Lib.hid hd
  have y9 : w2.drew.cell? ⟨C, 9, none⟩ = some (.int .u64 (k.nw : Int)) := x9
  clear hX hd
  go_upto_region 4 with fail
  go_region_held3 (fun W => W.cell? ⟨C, 9, none⟩ = some (.int .u64 (k.nw : Int)))
    (first
      | exact y9
      | exact X3.out.cx.c9)
    (first
      | (go_at_call 29
         (with_reducible refine HCLK.out.mono ?_)
         rintro e w3 ⟨rfl, hleft⟩
         obtain ⟨vR1, hX3⟩ := HDR.out.sess hleft
         have X3 := Lib.hid hX3
         clear hleft hX3))
  clear x0 x1 x2 x3 x4 x5 x6 x7 x8 x9 hCl hpr y9
  obtain ⟨x0, x1, x2, x3, x4, x5, x6, x7, x8, x9⟩ := X3.out.cx.all
  have hCl := X3.out.cx.lt
  have hpr := X3.out.md.plt
  have hpx := X3.out.px
  obtain ⟨p0, p1, p2⟩ : _ ∧ _ ∧ _ := ⟨hpx.c0, hpx.c1, hpx.c2⟩
  have pf := hpx.free
  have hPl := hpx.lt
  clear hpx
  have HREG := Lib.hid (CalD.rreg_any X3.out.md.tb hG1 HT2 HID HE0)
  go_wp2_with fail
  with_reducible refine HREG.out.mono ?_
  rintro e w4 ⟨rfl, hleft⟩
  obtain ⟨vR2, hX4⟩ := X3.out.sess hleft
  have X4 := Lib.hid hX4
  clear x0 x1 x2 x3 x4 x5 x6 x7 x8 x9 hCl hpr p0 p1 p2 pf hPl hleft hX4
  have hpx := X4.out.px
  obtain ⟨p0, p1, p2⟩ : _ ∧ _ ∧ _ := ⟨hpx.c0, hpx.c1, hpx.c2⟩
  have pf := hpx.free
  have hPl := hpx.lt
  have HZ := Lib.hid (hpx.set (.int .i64 e0) (.int .u64 (id : Int)) (.int .u64 0)).1
  have HE := Lib.hid (X4.out.ends (.int .i64 e0) (.int .u64 (id : Int)) (.int .u64 0))
  clear hpx
  go_wp2
  refine bodyPost_ret (res1y (q := 4) rfl _ rfl HZ.out) rfl ?_
  exact ⟨rfl, HE.out⟩
set_option maxRecDepth 100000 in
set_option maxHeartbeats 16000000 in
theorem dap_hear0 {B : Nat} {w : World} {p : Nat} {vR vI vS : Value} {m : Mc} {hs : List Hs} (h : MD B w p vR vI vS m hs) (hf : Fit m) (s : ByteArray) (hsz : s.size ≤ 9223372036854775807) {k : Cm} (hk : dec s = k) (hz : decZ s = 0) (hm : mayB k = true) (hfin : Cmd.Fin k) (hkk : k.k = 4) (hs0 : seekS m.l k.sg = none) :
    Calls Tryz.prog 12 #[.pointer (some ⟨p, 0, none⟩), .string s] w fun e w' => e = .returned (ryV (yE 43)) ∧ LeftM B w p vR vI vS ⟨clock m.t k.nw, m.l⟩ w' := by
  have HD := Lib.hid (rdec_lit hsz hk hz)
  obtain ⟨t1, ht1⟩ : ∃ t, clock m.t k.nw = t := ⟨_, rfl⟩
  have hG1 : Sane t1 := by rw [← ht1]; exact hf.tb.clock hfin.nw
  have HT1 := Lib.hid ht1
  have HNW : Hid (U k.nw) := hfin.nw
  have HFT := Lib.hid hf.tb
  have H := Lib.hid h
  have hpl := h.plt
  have hP := Box3.new w (.int .i64 0) (.int .u64 0) (.int .u64 0)
  have hb0 : Below w.heap.size w (w.alloc (.cells #[.int .i64 0, .int .u64 0, .int .u64 0] 32)) := (Below.refl _ _).alloc (Nat.le_refl _) _
  obtain ⟨w0, hw0⟩ : ∃ x, w.alloc (.cells #[.int .i64 0, .int .u64 0, .int .u64 0] 32) = x := ⟨_, rfl⟩
  rw [hw0] at hP hb0
  have HW0 := Lib.hid hw0
  have HP := Lib.hid hP
  have HB0 := Lib.hid hb0
  rw [ht1]
  have k1 : (k.k == 1) = false := by rw [hkk]; rfl
  have k4 : (k.k == 4) = true := by rw [hkk]; rfl
  clear hkk
  have HS0 := Lib.hid hs0
  clear hs0
  clear hw0 hP hb0 ht1 hk hz h hf hfin hsz
  go_enter Tryz.func12, Tryz.ntmps12
  go_wp2_with fail
  rw [HW0.out]
  with_reducible refine (HD.out w0).mono ?_
  rintro e w1 ⟨A, n, c, rfl, hA, hb1, hnew⟩
  obtain ⟨w2, HW2, hx, hA2, hb2⟩ := cm_box c hA
  have hX := cx_new H.out HP.out HB0.out hb1 hA trivial hx hA2 hb2 (fun hn ad e => by have := hnew hn ad e; have := HB0.out.size; omega)
  obtain ⟨P, hPe⟩ : ∃ P, w.heap.size = P := ⟨_, rfl⟩
  obtain ⟨C, hCe⟩ : ∃ C, w1.heap.size = C := ⟨_, rfl⟩
  rw [hPe, hCe] at hX
  clear hA hb1 hnew hx hA2 hb2
  unfold CmdAt.cmV
  go_upto_region 2 with fail
  rw [HW2.out]
  clear hPe hCe
  have X2 := Lib.hid hX
  obtain ⟨x0, x1, x2, x3, x4, x5, x6, x7, x8, x9⟩ := hX.cx.all
  have hCl := hX.cx.lt
  have hpr := hX.md.plt
  have hd := hX.below ((Below.refl w2.heap.size w2).drew)
  have HCLK := Lib.hid (CalD.rclock_any hd.md.tb HFT.out HNW.out HT1)
  have HDR := Lib.hid hd
  have y9 : w2.drew.cell? ⟨C, 9, none⟩ = some (.int .u64 (k.nw : Int)) := x9
  clear hX hd
  go_upto_region 4 with fail
  go_region_held3 (fun W => W.cell? ⟨C, 9, none⟩ = some (.int .u64 (k.nw : Int)))
    (first
      | exact y9
      | exact X3.out.cx.c9)
    (first
      | (go_at_call 29
         (with_reducible refine HCLK.out.mono ?_)
         rintro e w3 ⟨rfl, hleft⟩
         obtain ⟨vR1, hX3⟩ := HDR.out.sess hleft
         have X3 := Lib.hid hX3
         clear hleft hX3))
  clear x0 x1 x2 x3 x4 x5 x6 x7 x8 x9 hCl hpr y9
  obtain ⟨x0, x1, x2, x3, x4, x5, x6, x7, x8, x9⟩ := X3.out.cx.all
  have hCl := X3.out.cx.lt
  have hpr := X3.out.md.plt
  have hpx := X3.out.px
  obtain ⟨p0, p1, p2⟩ : _ ∧ _ ∧ _ := ⟨hpx.c0, hpx.c1, hpx.c2⟩
  have pf := hpx.free
  have hPl := hpx.lt
  clear hpx
  have HF := Lib.hid (dfind_no X3.out.md k.sg HS0.out)
  go_wp2_with fail
  with_reducible refine HF.out.mono ?_
  rintro e w4 ⟨rfl, rfl⟩
  clear p0 p1 p2 pf hPl
  have hpx := X3.out.px
  obtain ⟨p0, p1, p2⟩ : _ ∧ _ ∧ _ := ⟨hpx.c0, hpx.c1, hpx.c2⟩
  have pf := hpx.free
  have hPl := hpx.lt
  have HZ := Lib.hid (hpx.set (.int .i64 43) (.int .u64 0) (.int .u64 0)).1
  have HE := Lib.hid (X3.out.ends (.int .i64 43) (.int .u64 0) (.int .u64 0))
  clear hpx
  go_wp2
  refine bodyPost_ret (res1y (q := 4) rfl _ rfl HZ.out) rfl ?_
  exact ⟨rfl, HE.out⟩
set_option maxRecDepth 100000 in
set_option maxHeartbeats 16000000 in
theorem dap_stale {B : Nat} {w : World} {p : Nat} {vR vI vS : Value} {m : Mc} {hs : List Hs} (h : MD B w p vR vI vS m hs) (hf : Fit m) (s : ByteArray) (hsz : s.size ≤ 9223372036854775807) {k : Cm} (hk : dec s = k) (hz : decZ s = 0) (hm : mayB k = true) (hfin : Cmd.Fin k) (h1 : k.k ≠ 1) (h4 : k.k ≠ 4) (hb : begF (clock m.t k.nw) k.ss k.sq = false) :
    Calls Tryz.prog 12 #[.pointer (some ⟨p, 0, none⟩), .string s] w fun e w' => e = .returned (ryV (begY (clock m.t k.nw) k.ss k.sq)) ∧ LeftM B w p vR vI vS ⟨begT (clock m.t k.nw) k.ss, m.l⟩ w' := by
  have HD := Lib.hid (rdec_lit hsz hk hz)
  obtain ⟨t1, ht1⟩ : ∃ t, clock m.t k.nw = t := ⟨_, rfl⟩
  have hG1 : Sane t1 := by rw [← ht1]; exact hf.tb.clock hfin.nw
  have HT1 := Lib.hid ht1
  have HNW : Hid (U k.nw) := hfin.nw
  have HFT := Lib.hid hf.tb
  have H := Lib.hid h
  have hpl := h.plt
  have hP := Box3.new w (.int .i64 0) (.int .u64 0) (.int .u64 0)
  have hb0 : Below w.heap.size w (w.alloc (.cells #[.int .i64 0, .int .u64 0, .int .u64 0] 32)) := (Below.refl _ _).alloc (Nat.le_refl _) _
  obtain ⟨w0, hw0⟩ : ∃ x, w.alloc (.cells #[.int .i64 0, .int .u64 0, .int .u64 0] 32) = x := ⟨_, rfl⟩
  rw [hw0] at hP hb0
  have HW0 := Lib.hid hw0
  have HP := Lib.hid hP
  have HB0 := Lib.hid hb0
  rw [ht1]
  rw [ht1] at hb
  have k1 : (k.k == 1) = false := by simpa using h1
  have k4 : (k.k == 4) = false := by simpa using h4
  clear h1 h4
  obtain ⟨t2, ht2⟩ : ∃ t, begT t1 k.ss = t := ⟨_, rfl⟩
  obtain ⟨y0, y1, y2, hy⟩ : ∃ a b c, begY t1 k.ss k.sq = ⟨a, b, c⟩ := ⟨_, _, _, rfl⟩
  rw [ht2, hy]
  have HT2 := Lib.hid ht2
  have HY := Lib.hid hy
  have HB := Lib.hid hb
  have HSQ : Hid (U k.sq) := hfin.sq
  clear ht2 hy hb
  obtain ⟨fd, hfd⟩ : ∃ i : Int, ∀ W : World, ∀ v : Value, MD B W p v vI vS ⟨t1, m.l⟩ hs → Calls Tryz.prog 31 #[.pointer (some ⟨p, 0, none⟩), .int .u64 (k.sg : Int)] W fun e w' => e = .returned (.int .i64 i) ∧ w' = W := by
    cases hsk : seekS m.l k.sg with
    | none => exact ⟨-1, fun W v H => dfind_no H k.sg hsk⟩
    | some i => exact ⟨i, fun W v H => dfind_yes H k.sg hsk⟩
  have HFD := Lib.hid hfd
  clear hfd
  clear hw0 hP hb0 ht1 hk hz h hf hfin hsz
  go_enter Tryz.func12, Tryz.ntmps12
  go_wp2_with fail
  rw [HW0.out]
  with_reducible refine (HD.out w0).mono ?_
  rintro e w1 ⟨A, n, c, rfl, hA, hb1, hnew⟩
  obtain ⟨w2, HW2, hx, hA2, hb2⟩ := cm_box c hA
  have hX := cx_new H.out HP.out HB0.out hb1 hA trivial hx hA2 hb2 (fun hn ad e => by have := hnew hn ad e; have := HB0.out.size; omega)
  obtain ⟨P, hPe⟩ : ∃ P, w.heap.size = P := ⟨_, rfl⟩
  obtain ⟨C, hCe⟩ : ∃ C, w1.heap.size = C := ⟨_, rfl⟩
  rw [hPe, hCe] at hX
  clear hA hb1 hnew hx hA2 hb2
  unfold CmdAt.cmV
  go_upto_region 2 with fail
  rw [HW2.out]
  clear hPe hCe
  have X2 := Lib.hid hX
  obtain ⟨x0, x1, x2, x3, x4, x5, x6, x7, x8, x9⟩ := hX.cx.all
  have hCl := hX.cx.lt
  have hpr := hX.md.plt
  have hd := hX.below ((Below.refl w2.heap.size w2).drew)
  have HCLK := Lib.hid (CalD.rclock_any hd.md.tb HFT.out HNW.out HT1)
  have HDR := Lib.hid hd
  have y9 : w2.drew.cell? ⟨C, 9, none⟩ = some (.int .u64 (k.nw : Int)) := x9
  clear hX hd
  go_upto_region 4 with fail
  go_region_held3 (fun W => W.cell? ⟨C, 9, none⟩ = some (.int .u64 (k.nw : Int)))
    (first
      | exact y9
      | exact X3.out.cx.c9)
    (first
      | (go_at_call 29
         (with_reducible refine HCLK.out.mono ?_)
         rintro e w3 ⟨rfl, hleft⟩
         obtain ⟨vR1, hX3⟩ := HDR.out.sess hleft
         have X3 := Lib.hid hX3
         clear hleft hX3))
  clear x0 x1 x2 x3 x4 x5 x6 x7 x8 x9 hCl hpr y9
  obtain ⟨x0, x1, x2, x3, x4, x5, x6, x7, x8, x9⟩ := X3.out.cx.all
  have hCl := X3.out.cx.lt
  have hpr := X3.out.md.plt
  have hpx := X3.out.px
  obtain ⟨p0, p1, p2⟩ : _ ∧ _ ∧ _ := ⟨hpx.c0, hpx.c1, hpx.c2⟩
  have pf := hpx.free
  have hPl := hpx.lt
  clear hpx
  have HF := Lib.hid (HFD.out _ _ X3.out.md)
  go_wp2_with fail
  with_reducible refine HF.out.mono ?_
  rintro e w4 ⟨rfl, rfl⟩
  go_upto_region 17 with fail
  have hX3d := X3.out.below ((Below.refl w4.heap.size w4).drew)
  have X3d := Lib.hid hX3d
  have hX3a := (X3.out.below ((Below.refl w4.heap.size w4).alloc (Nat.le_refl _) (.cells #[.int .i64 0, .int .u64 0, .int .u64 0] 32))).below (Below.refl _ _).drew
  have X3a := Lib.hid hX3a
  clear hX3d hX3a
  have HBG := Lib.hid (fun W (X : Cx B w W p P C vR vI vS vR1 vI vS ⟨t1, m.l⟩ hs A n c k) => CalD.rbeg_any X.md.tb hG1 k.ss HSQ.out HT2 HY HB)
  unfold Rws.ryV at HBG
  go_cut [12, 13] from 83 to 93 (fun dd ff wx => ∃ vR2 D, dd = .pointer (some ⟨D, 0, none⟩) ∧ ff = .bool false ∧ Hid (Cx B w wx p P C vR vI vS vR2 vI vS ⟨t2, m.l⟩ hs A n c k) ∧ Hid (Box3 wx D (.int .i64 y0) (.int .u64 (y1 : Int)) (.int .u64 (y2 : Int))) ∧ Hid (Clr w p P C vR2 vI vS hs A n D))
  case first =>
    go_region_held3 (fun W => W.cell? ⟨C, 1, none⟩ = some (.int .u64 (k.ss : Int)) ∧ W.cell? ⟨C, 2, none⟩ = some (.int .u64 (k.sq : Int)))
      (first
        | exact ⟨X3d.out.cx.c1, X3d.out.cx.c2⟩
        | exact ⟨X3a.out.cx.c1, X3a.out.cx.c2⟩
        | exact ⟨X4.out.cx.c1, X4.out.cx.c2⟩
        | exact ⟨X5.out.cx.c1, X5.out.cx.c2⟩
        | (rw [HW6.out]; exact ⟨X6.out.cx.c1, X6.out.cx.c2⟩))
      (first
        | (go_at_call 34
           (with_reducible refine (HBG.out _ X3d.out).mono ?_)
           rintro e w5 ⟨rfl, hleft⟩
           obtain ⟨vR2, hX4⟩ := X3d.out.sess hleft
           obtain ⟨hX5, hQ5, hR, w6, HW6, hX6, hQ6⟩ := ApG.Cx.fin1 hX4 (.int .i64 y0) (.int .u64 (y1 : Int)) (.int .u64 (y2 : Int))
           have X4 := Lib.hid hX4
           have X5 := Lib.hid hX5
           have X6 := Lib.hid hX6
           have R6 := Lib.hid hR
           have Q6 := Lib.hid hQ6
           have z0 := hQ5.c0
           have z1 := hQ5.c1
           have z2 := hQ5.c2
           have zf := hQ5.free
           have zl := hQ5.lt
           clear hleft hX4 hX5 hQ5 hR hX6 hQ6)
        | (go_at_call 34
           (with_reducible refine (HBG.out _ X3a.out).mono ?_)
           rintro e w5 ⟨rfl, hleft⟩
           obtain ⟨vR2, hX4, hQ5, hR, w6, HW6, hX6, hQ6⟩ := ApG.Cx.fin2 X3.out hleft (.int .i64 y0) (.int .u64 (y1 : Int)) (.int .u64 (y2 : Int))
           have X4 := Lib.hid hX4
           have X6 := Lib.hid hX6
           have R6 := Lib.hid hR
           have Q6 := Lib.hid hQ6
           have z0 := hQ5.c0
           have z1 := hQ5.c1
           have z2 := hQ5.c2
           have zf := hQ5.free
           have zl := hQ5.lt
           clear hleft hX4 hQ5 hR hX6 hQ6))
    all_goals
      go_wp2_with fail
      go_meet
      rw [HW6.out]
      exact ⟨_, _, rfl, rfl, X6, Q6, R6⟩
  obtain ⟨vR2, D, rfl, rfl, X6, Q6, R6⟩ := hcut
  clear x0 x1 x2 x3 x4 x5 x6 x7 x8 x9 hCl hpr p0 p1 p2 pf hPl X3d X3a HBG
  obtain ⟨q0, q1, q2⟩ : _ ∧ _ ∧ _ := ⟨Q6.out.c0, Q6.out.c1, Q6.out.c2⟩
  have hql := Q6.out.lt
  have qf := Q6.out.free
  have hpx := X6.out.px
  obtain ⟨p0, p1, p2⟩ : _ ∧ _ ∧ _ := ⟨hpx.c0, hpx.c1, hpx.c2⟩
  have pf := hpx.free
  have hPl := hpx.lt
  have HZ := Lib.hid (hpx.set (.int .i64 y0) (.int .u64 (y1 : Int)) (.int .u64 (y2 : Int))).1
  have HE := Lib.hid (X6.out.ends (.int .i64 y0) (.int .u64 (y1 : Int)) (.int .u64 (y2 : Int)))
  clear hpx
  go_wp2
  refine bodyPost_ret (res1y (q := 4) rfl _ rfl HZ.out) rfl ?_
  exact ⟨rfl, HE.out⟩
set_option maxRecDepth 100000 in
set_option maxHeartbeats 16000000 in
theorem dap_hear_no {B : Nat} {w : World} {p : Nat} {vR vI vS : Value} {m : Mc} {hs : List Hs} (h : MD B w p vR vI vS m hs) (hf : Fit m) (s : ByteArray) (hsz : s.size ≤ 9223372036854775807) {k : Cm} (hk : dec s = k) (hz : decZ s = 0) (hm : mayB k = true) (hfin : Cmd.Fin k) (hkk : k.k = 4) {i : Nat} {y : Nat × Sg} (hsi : seekS m.l k.sg = some i) (hy : m.l[i]? = some y) {s1 : Sg} (hs1 : outc y.2 k.st k.bk k.tr k.ok = s1) (hs2 : takes y.2 k.st k.bk k.tr k.ok = false) :
    Calls Tryz.prog 12 #[.pointer (some ⟨p, 0, none⟩), .string s] w fun e w' => e = .returned (ryV (yE 41)) ∧ LeftM B w p vR vI vS ⟨clock m.t k.nw, m.l⟩ w' := by
  have HD := Lib.hid (rdec_lit hsz hk hz)
  obtain ⟨t1, ht1⟩ : ∃ t, clock m.t k.nw = t := ⟨_, rfl⟩
  have hG1 : Sane t1 := by rw [← ht1]; exact hf.tb.clock hfin.nw
  have HT1 := Lib.hid ht1
  have HNW : Hid (U k.nw) := hfin.nw
  have HFT := Lib.hid hf.tb
  have H := Lib.hid h
  have hpl := h.plt
  have hP := Box3.new w (.int .i64 0) (.int .u64 0) (.int .u64 0)
  have hb0 : Below w.heap.size w (w.alloc (.cells #[.int .i64 0, .int .u64 0, .int .u64 0] 32)) := (Below.refl _ _).alloc (Nat.le_refl _) _
  obtain ⟨w0, hw0⟩ : ∃ x, w.alloc (.cells #[.int .i64 0, .int .u64 0, .int .u64 0] 32) = x := ⟨_, rfl⟩
  rw [hw0] at hP hb0
  have HW0 := Lib.hid hw0
  have HP := Lib.hid hP
  have HB0 := Lib.hid hb0
  rw [ht1]
  have k1 : (k.k == 1) = false := by rw [hkk]; rfl
  have k4 : (k.k == 4) = true := by rw [hkk]; rfl
  clear hkk
  have hyk : y.1 = k.sg := by
    obtain ⟨x, a, b, _⟩ := seekS_some hsi
    rw [hy] at a
    cases a
    exact b
  obtain ⟨g, cS, e, hvS, hi, _, he, hes, _, _, hgl, _⟩ := row_at h hy
  obtain ⟨yi, ys⟩ := y
  simp only at hes hyk hs1 hs2
  subst hes
  obtain ⟨eA, ec, el, st, cu, fa⟩ := e
  obtain ⟨l1, st1, cu1, fa1⟩ := s1
  obtain rfl : l1 = el := by
    have := outc_l ⟨el, st, cu, fa⟩ k.st k.bk k.tr k.ok
    rw [hs1] at this
    exact this
  obtain ⟨L, hL⟩ : ∃ L, m.l.length = L := ⟨_, rfl⟩
  rw [hL] at hvS hi
  have hiL : (i : Int) < (L : Int) := by omega
  have hi0 : (0 : Int) ≤ (i : Int) := by omega
  have hin : ¬ ((i : Int) < 0) := by omega
  have HSI := Lib.hid hsi
  have HY0 := Lib.hid hy
  have HE0 := Lib.hid he
  have HYK := Lib.hid hyk
  have HS1 := Lib.hid hs1
  have HS2 := Lib.hid hs2
  clear hsi hy he hyk hs1 hs2 hi hL hgl
  subst hvS
  clear hw0 hP hb0 ht1 hk hz h hf hfin hsz
  go_enter Tryz.func12, Tryz.ntmps12
  go_wp2_with fail
  rw [HW0.out]
  with_reducible refine (HD.out w0).mono ?_
  rintro e w1 ⟨A, n, c, rfl, hA, hb1, hnew⟩
  obtain ⟨w2, HW2, hx, hA2, hb2⟩ := cm_box c hA
  have hX := cx_new H.out HP.out HB0.out hb1 hA trivial hx hA2 hb2 (fun hn ad e => by have := hnew hn ad e; have := HB0.out.size; omega)
  obtain ⟨P, hPe⟩ : ∃ P, w.heap.size = P := ⟨_, rfl⟩
  obtain ⟨C, hCe⟩ : ∃ C, w1.heap.size = C := ⟨_, rfl⟩
  rw [hPe, hCe] at hX
  clear hA hb1 hnew hx hA2 hb2
  unfold CmdAt.cmV
  go_upto_region 2 with fail
  rw [HW2.out]
  clear hPe hCe
  have X2 := Lib.hid hX
  obtain ⟨x0, x1, x2, x3, x4, x5, x6, x7, x8, x9⟩ := hX.cx.all
  have hCl := hX.cx.lt
  have hpr := hX.md.plt
  have hd := hX.below ((Below.refl w2.heap.size w2).drew)
  have HCLK := Lib.hid (CalD.rclock_any hd.md.tb HFT.out HNW.out HT1)
  have HDR := Lib.hid hd
  have y9 : w2.drew.cell? ⟨C, 9, none⟩ = some (.int .u64 (k.nw : Int)) := x9
  clear hX hd
  go_upto_region 4 with fail
  go_region_held3 (fun W => W.cell? ⟨C, 9, none⟩ = some (.int .u64 (k.nw : Int)))
    (first
      | exact y9
      | exact X3.out.cx.c9)
    (first
      | (go_at_call 29
         (with_reducible refine HCLK.out.mono ?_)
         rintro e w3 ⟨rfl, hleft⟩
         obtain ⟨vR1, hX3⟩ := HDR.out.sess hleft
         have X3 := Lib.hid hX3
         clear hleft hX3))
  clear x0 x1 x2 x3 x4 x5 x6 x7 x8 x9 hCl hpr y9
  obtain ⟨x0, x1, x2, x3, x4, x5, x6, x7, x8, x9⟩ := X3.out.cx.all
  have hCl := X3.out.cx.lt
  have hpr := X3.out.md.plt
  have hpx := X3.out.px
  obtain ⟨p0, p1, p2⟩ : _ ∧ _ ∧ _ := ⟨hpx.c0, hpx.c1, hpx.c2⟩
  have pf := hpx.free
  have hPl := hpx.lt
  clear hpx
  have HF := Lib.hid (dfind_yes X3.out.md k.sg HSI.out)
  go_wp2_with fail
  with_reducible refine HF.out.mono ?_
  rintro e w4 ⟨rfl, rfl⟩
  have XC : Hid (∀ W, Cx B w W p P C vR vI (.slice (some ⟨g, 0, none⟩) L cS) vR1 vI (.slice (some ⟨g, 0, none⟩) L cS) ⟨t1, m.l⟩ hs A n c k → W.cell? ⟨p, 4, none⟩ = some (.slice (some ⟨g, 0, none⟩) L cS) ∧ W.cell? ⟨g, i * 4, none⟩ = some (.slice eA l1.length ec) ∧ W.cell? ⟨g, i * 4 + 1, none⟩ = some (.int .i64 st) ∧ W.cell? ⟨g, i * 4 + 2, none⟩ = some (.int .i64 cu) ∧ W.cell? ⟨g, i * 4 + 3, none⟩ = some (.int .i64 fa) ∧ W.cell? ⟨C, 5, none⟩ = some (.int .i64 k.st) ∧ W.cell? ⟨C, 6, none⟩ = some (.bool k.bk) ∧ W.cell? ⟨C, 7, none⟩ = some (.int .i64 k.tr) ∧ W.cell? ⟨C, 8, none⟩ = some (.bool k.ok)) := Lib.hid fun W X => by
    obtain ⟨hr, _⟩ := row_again X.md HY0.out rfl HE0.out
    exact ⟨X.md.c4, hr.c0, hr.c1, hr.c2, hr.c3, X.cx.c5, X.cx.c6, X.cx.c7, X.cx.c8⟩
  have HOC := Lib.hid (fun W (X : Cx B w W p P C vR vI (.slice (some ⟨g, 0, none⟩) L cS) vR1 vI (.slice (some ⟨g, 0, none⟩) L cS) ⟨t1, m.l⟩ hs A n c k) => SgaWalkF.routcome_any SgaWalkS.rsnd ec (row_again X.md HY0.out rfl HE0.out).2.1 k.st k.bk k.tr k.ok HS1 HS2)
  have hX3d := X3.out.below ((Below.refl w4.heap.size w4).drew)
  have X3d := Lib.hid hX3d
  have hX3a := (X3.out.below ((Below.refl w4.heap.size w4).alloc (Nat.le_refl _) (.cells #[.slice none 0 0, .int .i64 0, .int .i64 0, .int .i64 0] 49))).below (Below.refl _ _).drew
  have X3a := Lib.hid hX3a
  clear hX3d hX3a
  clear x0 x1 x2 x3 x4 x5 x6 x7 x8 x9
  obtain ⟨x0, x1, x2, x3⟩ : _ ∧ _ ∧ _ ∧ _ := ⟨X3.out.cx.c0, X3.out.cx.c3, X3.out.cx.c4, X3.out.cx.c9⟩
  go_upto_region 12 with fail
  go_cut [10, 11] from 52 to 70 (fun dd ff wx => ∃ D, dd = .pointer (some ⟨D, 0, none⟩) ∧ ff = .bool false ∧ Hid (Cx B w wx p P C vR vI (.slice (some ⟨g, 0, none⟩) L cS) vR1 vI (.slice (some ⟨g, 0, none⟩) L cS) ⟨t1, m.l⟩ hs A n c k) ∧ Hid (Box4 wx D (.slice eA l1.length ec) (.int .i64 st1) (.int .i64 cu1) (.int .i64 fa1)) ∧ Hid (Clr w p P C vR1 vI (.slice (some ⟨g, 0, none⟩) L cS) hs A n D))
  case first =>
    go_region_held3 (fun W => W.cell? ⟨p, 4, none⟩ = some (.slice (some ⟨g, 0, none⟩) L cS) ∧ W.cell? ⟨g, i * 4, none⟩ = some (.slice eA l1.length ec) ∧ W.cell? ⟨g, i * 4 + 1, none⟩ = some (.int .i64 st) ∧ W.cell? ⟨g, i * 4 + 2, none⟩ = some (.int .i64 cu) ∧ W.cell? ⟨g, i * 4 + 3, none⟩ = some (.int .i64 fa) ∧ W.cell? ⟨C, 5, none⟩ = some (.int .i64 k.st) ∧ W.cell? ⟨C, 6, none⟩ = some (.bool k.bk) ∧ W.cell? ⟨C, 7, none⟩ = some (.int .i64 k.tr) ∧ W.cell? ⟨C, 8, none⟩ = some (.bool k.ok))
      (first
        | exact XC.out _ X3d.out
        | exact XC.out _ X3a.out
        | exact XC.out _ X4.out
        | exact XC.out _ X5.out
        | (rw [HW6.out]; exact XC.out _ X6.out))
      (first
        | (go_at_call 32
           (with_reducible refine (HOC.out _ X3d.out).mono ?_)
           rintro e w5 ⟨rfl, hleft⟩
           have hX4 := X3d.out.below hleft
           obtain ⟨hX5, hQ5, hR, w6, HW6, hX6, hQ6⟩ := ApG.Cx.fin14 hX4 (.slice eA l1.length ec) (.int .i64 st1) (.int .i64 cu1) (.int .i64 fa1)
           have X4 := Lib.hid hX4
           have X5 := Lib.hid hX5
           have X6 := Lib.hid hX6
           have R6 := Lib.hid hR
           have Q6 := Lib.hid hQ6
           have z0 := hQ5.c0
           have z1 := hQ5.c1
           have z2 := hQ5.c2
           have z3 := hQ5.c3
           have zf := hQ5.free
           have zl := hQ5.lt
           clear hleft hX4 hX5 hQ5 hR hX6 hQ6)
        | (go_at_call 32
           (with_reducible refine (HOC.out _ X3a.out).mono ?_)
           rintro e w5 ⟨rfl, hleft⟩
           obtain ⟨hX4, hQ5, hR, w6, HW6, hX6, hQ6⟩ := ApG.Cx.fin24 X3.out hleft (.slice eA l1.length ec) (.int .i64 st1) (.int .i64 cu1) (.int .i64 fa1)
           have X4 := Lib.hid hX4
           have X6 := Lib.hid hX6
           have R6 := Lib.hid hR
           have Q6 := Lib.hid hQ6
           have z0 := hQ5.c0
           have z1 := hQ5.c1
           have z2 := hQ5.c2
           have z3 := hQ5.c3
           have zf := hQ5.free
           have zl := hQ5.lt
           clear hleft hX4 hQ5 hR hX6 hQ6))
    all_goals
      go_wp2_with fail
      go_meet
      rw [HW6.out]
      exact ⟨_, rfl, rfl, X6, Q6, R6⟩
  obtain ⟨D, rfl, rfl, X6, Q6, R6⟩ := hcut
  clear x0 x1 x2 x3 hCl hpr p0 p1 p2 pf hPl X3d X3a HOC
  obtain ⟨q0, q1, q2, q3⟩ : _ ∧ _ ∧ _ ∧ _ := ⟨Q6.out.c0, Q6.out.c1, Q6.out.c2, Q6.out.c3⟩
  have hql := Q6.out.lt
  have qf := Q6.out.free
  have hpx := X6.out.px
  obtain ⟨p0, p1, p2⟩ : _ ∧ _ ∧ _ := ⟨hpx.c0, hpx.c1, hpx.c2⟩
  have pf := hpx.free
  have hPl := hpx.lt
  have HZ := Lib.hid (hpx.set (.int .i64 41) (.int .u64 0) (.int .u64 0)).1
  have HE := Lib.hid (X6.out.ends (.int .i64 41) (.int .u64 0) (.int .u64 0))
  clear hpx
  go_wp2
  refine bodyPost_ret (res1y (q := 4) rfl _ rfl HZ.out) rfl ?_
  exact ⟨rfl, HE.out⟩
set_option maxRecDepth 100000 in
set_option maxHeartbeats 16000000 in
theorem dap_hear_yes {B : Nat} {w : World} {p : Nat} {vR vI vS : Value} {m : Mc} {hs : List Hs} (h : MD B w p vR vI vS m hs) (hf : Fit m) (s : ByteArray) (hsz : s.size ≤ 9223372036854775807) {k : Cm} (hk : dec s = k) (hz : decZ s = 0) (hm : mayB k = true) (hfin : Cmd.Fin k) (hkk : k.k = 4) {i : Nat} {y : Nat × Sg} (hsi : seekS m.l k.sg = some i) (hy : m.l[i]? = some y) {s1 : Sg} (hs1 : outc y.2 k.st k.bk k.tr k.ok = s1) (hs2 : takes y.2 k.st k.bk k.tr k.ok = true) :
    Calls Tryz.prog 12 #[.pointer (some ⟨p, 0, none⟩), .string s] w fun e w' => e = .returned (ryV (told s1)) ∧ LeftM B w p vR vI vS ⟨clock m.t k.nw, m.l.set i (k.sg, s1)⟩ w' := by
  have HD := Lib.hid (rdec_lit hsz hk hz)
  obtain ⟨t1, ht1⟩ : ∃ t, clock m.t k.nw = t := ⟨_, rfl⟩
  have hG1 : Sane t1 := by rw [← ht1]; exact hf.tb.clock hfin.nw
  have HT1 := Lib.hid ht1
  have HNW : Hid (U k.nw) := hfin.nw
  have HFT := Lib.hid hf.tb
  have H := Lib.hid h
  have hpl := h.plt
  have hP := Box3.new w (.int .i64 0) (.int .u64 0) (.int .u64 0)
  have hb0 : Below w.heap.size w (w.alloc (.cells #[.int .i64 0, .int .u64 0, .int .u64 0] 32)) := (Below.refl _ _).alloc (Nat.le_refl _) _
  obtain ⟨w0, hw0⟩ : ∃ x, w.alloc (.cells #[.int .i64 0, .int .u64 0, .int .u64 0] 32) = x := ⟨_, rfl⟩
  rw [hw0] at hP hb0
  have HW0 := Lib.hid hw0
  have HP := Lib.hid hP
  have HB0 := Lib.hid hb0
  rw [ht1]
  have k1 : (k.k == 1) = false := by rw [hkk]; rfl
  have k4 : (k.k == 4) = true := by rw [hkk]; rfl
  clear hkk
  have hyk : y.1 = k.sg := by
    obtain ⟨x, a, b, _⟩ := seekS_some hsi
    rw [hy] at a
    cases a
    exact b
  obtain ⟨g, cS, e, hvS, hi, _, he, hes, _, _, hgl, _⟩ := row_at h hy
  obtain ⟨yi, ys⟩ := y
  simp only at hes hyk hs1 hs2
  subst hes
  obtain ⟨eA, ec, el, st, cu, fa⟩ := e
  obtain ⟨l1, st1, cu1, fa1⟩ := s1
  obtain rfl : l1 = el := by
    have := outc_l ⟨el, st, cu, fa⟩ k.st k.bk k.tr k.ok
    rw [hs1] at this
    exact this
  obtain ⟨L, hL⟩ : ∃ L, m.l.length = L := ⟨_, rfl⟩
  rw [hL] at hvS hi
  have hiL : (i : Int) < (L : Int) := by omega
  have hi0 : (0 : Int) ≤ (i : Int) := by omega
  have hin : ¬ ((i : Int) < 0) := by omega
  have HSI := Lib.hid hsi
  have HY0 := Lib.hid hy
  have HE0 := Lib.hid he
  have HYK := Lib.hid hyk
  have HS1 := Lib.hid hs1
  have HS2 := Lib.hid hs2
  clear hsi hy he hyk hs1 hs2 hi hL hgl
  subst hvS
  clear hw0 hP hb0 ht1 hk hz h hf hfin hsz
  go_enter Tryz.func12, Tryz.ntmps12
  go_wp2_with fail
  rw [HW0.out]
  with_reducible refine (HD.out w0).mono ?_
  rintro e w1 ⟨A, n, c, rfl, hA, hb1, hnew⟩
  obtain ⟨w2, HW2, hx, hA2, hb2⟩ := cm_box c hA
  have hX := cx_new H.out HP.out HB0.out hb1 hA trivial hx hA2 hb2 (fun hn ad e => by have := hnew hn ad e; have := HB0.out.size; omega)
  obtain ⟨P, hPe⟩ : ∃ P, w.heap.size = P := ⟨_, rfl⟩
  obtain ⟨C, hCe⟩ : ∃ C, w1.heap.size = C := ⟨_, rfl⟩
  rw [hPe, hCe] at hX
  clear hA hb1 hnew hx hA2 hb2
  unfold CmdAt.cmV
  go_upto_region 2 with fail
  rw [HW2.out]
  clear hPe hCe
  have X2 := Lib.hid hX
  obtain ⟨x0, x1, x2, x3, x4, x5, x6, x7, x8, x9⟩ := hX.cx.all
  have hCl := hX.cx.lt
  have hpr := hX.md.plt
  have hd := hX.below ((Below.refl w2.heap.size w2).drew)
  have HCLK := Lib.hid (CalD.rclock_any hd.md.tb HFT.out HNW.out HT1)
  have HDR := Lib.hid hd
  have y9 : w2.drew.cell? ⟨C, 9, none⟩ = some (.int .u64 (k.nw : Int)) := x9
  clear hX hd
  go_upto_region 4 with fail
  go_region_held3 (fun W => W.cell? ⟨C, 9, none⟩ = some (.int .u64 (k.nw : Int)))
    (first
      | exact y9
      | exact X3.out.cx.c9)
    (first
      | (go_at_call 29
         (with_reducible refine HCLK.out.mono ?_)
         rintro e w3 ⟨rfl, hleft⟩
         obtain ⟨vR1, hX3⟩ := HDR.out.sess hleft
         have X3 := Lib.hid hX3
         clear hleft hX3))
  clear x0 x1 x2 x3 x4 x5 x6 x7 x8 x9 hCl hpr y9
  obtain ⟨x0, x1, x2, x3, x4, x5, x6, x7, x8, x9⟩ := X3.out.cx.all
  have hCl := X3.out.cx.lt
  have hpr := X3.out.md.plt
  have hpx := X3.out.px
  obtain ⟨p0, p1, p2⟩ : _ ∧ _ ∧ _ := ⟨hpx.c0, hpx.c1, hpx.c2⟩
  have pf := hpx.free
  have hPl := hpx.lt
  clear hpx
  have HF := Lib.hid (dfind_yes X3.out.md k.sg HSI.out)
  go_wp2_with fail
  with_reducible refine HF.out.mono ?_
  rintro e w4 ⟨rfl, rfl⟩
  have XC : Hid (∀ W, Cx B w W p P C vR vI (.slice (some ⟨g, 0, none⟩) L cS) vR1 vI (.slice (some ⟨g, 0, none⟩) L cS) ⟨t1, m.l⟩ hs A n c k → W.cell? ⟨p, 4, none⟩ = some (.slice (some ⟨g, 0, none⟩) L cS) ∧ W.cell? ⟨g, i * 4, none⟩ = some (.slice eA l1.length ec) ∧ W.cell? ⟨g, i * 4 + 1, none⟩ = some (.int .i64 st) ∧ W.cell? ⟨g, i * 4 + 2, none⟩ = some (.int .i64 cu) ∧ W.cell? ⟨g, i * 4 + 3, none⟩ = some (.int .i64 fa) ∧ W.cell? ⟨C, 5, none⟩ = some (.int .i64 k.st) ∧ W.cell? ⟨C, 6, none⟩ = some (.bool k.bk) ∧ W.cell? ⟨C, 7, none⟩ = some (.int .i64 k.tr) ∧ W.cell? ⟨C, 8, none⟩ = some (.bool k.ok)) := Lib.hid fun W X => by
    obtain ⟨hr, _⟩ := row_again X.md HY0.out rfl HE0.out
    exact ⟨X.md.c4, hr.c0, hr.c1, hr.c2, hr.c3, X.cx.c5, X.cx.c6, X.cx.c7, X.cx.c8⟩
  have HOC := Lib.hid (fun W (X : Cx B w W p P C vR vI (.slice (some ⟨g, 0, none⟩) L cS) vR1 vI (.slice (some ⟨g, 0, none⟩) L cS) ⟨t1, m.l⟩ hs A n c k) => SgaWalkF.routcome_any SgaWalkS.rsnd ec (row_again X.md HY0.out rfl HE0.out).2.1 k.st k.bk k.tr k.ok HS1 HS2)
  have hX3d := X3.out.below ((Below.refl w4.heap.size w4).drew)
  have X3d := Lib.hid hX3d
  have hX3a := (X3.out.below ((Below.refl w4.heap.size w4).alloc (Nat.le_refl _) (.cells #[.slice none 0 0, .int .i64 0, .int .i64 0, .int .i64 0] 49))).below (Below.refl _ _).drew
  have X3a := Lib.hid hX3a
  clear hX3d hX3a
  clear x0 x1 x2 x3 x4 x5 x6 x7 x8 x9
  obtain ⟨x0, x1, x2, x3⟩ : _ ∧ _ ∧ _ ∧ _ := ⟨X3.out.cx.c0, X3.out.cx.c3, X3.out.cx.c4, X3.out.cx.c9⟩
  go_upto_region 12 with fail
  go_cut [10, 11] from 52 to 70 (fun dd ff wx => ∃ D, dd = .pointer (some ⟨D, 0, none⟩) ∧ ff = .bool true ∧ Hid (Cx B w wx p P C vR vI (.slice (some ⟨g, 0, none⟩) L cS) vR1 vI (.slice (some ⟨g, 0, none⟩) L cS) ⟨t1, m.l⟩ hs A n c k) ∧ Hid (Box4 wx D (.slice eA l1.length ec) (.int .i64 st1) (.int .i64 cu1) (.int .i64 fa1)) ∧ Hid (Clr w p P C vR1 vI (.slice (some ⟨g, 0, none⟩) L cS) hs A n D))
  case first =>
    go_region_held3 (fun W => W.cell? ⟨p, 4, none⟩ = some (.slice (some ⟨g, 0, none⟩) L cS) ∧ W.cell? ⟨g, i * 4, none⟩ = some (.slice eA l1.length ec) ∧ W.cell? ⟨g, i * 4 + 1, none⟩ = some (.int .i64 st) ∧ W.cell? ⟨g, i * 4 + 2, none⟩ = some (.int .i64 cu) ∧ W.cell? ⟨g, i * 4 + 3, none⟩ = some (.int .i64 fa) ∧ W.cell? ⟨C, 5, none⟩ = some (.int .i64 k.st) ∧ W.cell? ⟨C, 6, none⟩ = some (.bool k.bk) ∧ W.cell? ⟨C, 7, none⟩ = some (.int .i64 k.tr) ∧ W.cell? ⟨C, 8, none⟩ = some (.bool k.ok))
      (first
        | exact XC.out _ X3d.out
        | exact XC.out _ X3a.out
        | exact XC.out _ X4.out
        | exact XC.out _ X5.out
        | (rw [HW6.out]; exact XC.out _ X6.out))
      (first
        | (go_at_call 32
           (with_reducible refine (HOC.out _ X3d.out).mono ?_)
           rintro e w5 ⟨rfl, hleft⟩
           have hX4 := X3d.out.below hleft
           obtain ⟨hX5, hQ5, hR, w6, HW6, hX6, hQ6⟩ := ApG.Cx.fin14 hX4 (.slice eA l1.length ec) (.int .i64 st1) (.int .i64 cu1) (.int .i64 fa1)
           have X4 := Lib.hid hX4
           have X5 := Lib.hid hX5
           have X6 := Lib.hid hX6
           have R6 := Lib.hid hR
           have Q6 := Lib.hid hQ6
           have z0 := hQ5.c0
           have z1 := hQ5.c1
           have z2 := hQ5.c2
           have z3 := hQ5.c3
           have zf := hQ5.free
           have zl := hQ5.lt
           clear hleft hX4 hX5 hQ5 hR hX6 hQ6)
        | (go_at_call 32
           (with_reducible refine (HOC.out _ X3a.out).mono ?_)
           rintro e w5 ⟨rfl, hleft⟩
           obtain ⟨hX4, hQ5, hR, w6, HW6, hX6, hQ6⟩ := ApG.Cx.fin24 X3.out hleft (.slice eA l1.length ec) (.int .i64 st1) (.int .i64 cu1) (.int .i64 fa1)
           have X4 := Lib.hid hX4
           have X6 := Lib.hid hX6
           have R6 := Lib.hid hR
           have Q6 := Lib.hid hQ6
           have z0 := hQ5.c0
           have z1 := hQ5.c1
           have z2 := hQ5.c2
           have z3 := hQ5.c3
           have zf := hQ5.free
           have zl := hQ5.lt
           clear hleft hX4 hQ5 hR hX6 hQ6))
    all_goals
      go_wp2_with fail
      go_meet
      rw [HW6.out]
      exact ⟨_, rfl, rfl, X6, Q6, R6⟩
  obtain ⟨D, rfl, rfl, X6, Q6, R6⟩ := hcut
  clear x0 x1 x2 x3 hCl hpr p0 p1 p2 pf hPl X3d X3a HOC
  obtain ⟨q0, q1, q2, q3⟩ : _ ∧ _ ∧ _ ∧ _ := ⟨Q6.out.c0, Q6.out.c1, Q6.out.c2, Q6.out.c3⟩
  have hql := Q6.out.lt
  have qf := Q6.out.free
  obtain ⟨hr6, _, rl, rf⟩ := row_again X6.out.md HY0.out rfl HE0.out
  obtain ⟨r0, r1, r2, r3⟩ : _ ∧ _ ∧ _ ∧ _ := ⟨hr6.c0, hr6.c1, hr6.c2, hr6.c3⟩
  have v4 := X6.out.md.c4
  have hpr := X6.out.md.plt
  have rf0 := rf (i * 4)
  have rf1 := rf (i * 4 + 1)
  have rf2 := rf (i * 4 + 2)
  have rf3 := rf (i * 4 + 3)
  have hgp : g ≠ p := fun e => X6.out.md.ps (by rw [e]; rfl)
  have hgp' : p ≠ g := fun e => hgp e.symm
  have hDg : D ≠ g := fun e => R6.out.no (by rw [e]; exact .inr (.inr rfl))
  have hDg' : g ≠ D := fun e => hDg e.symm
  obtain ⟨hX7, ho7⟩ := ApG.Cx.setS X6.out HE0.out HY0.out rfl HYK.out ⟨l1, st1, cu1, fa1⟩ rfl
  have hQ7 := Q6.out.keep (only_s ho7) (fun e => R6.out.no (by rw [e]; exact .inr (.inr rfl)))
  have hX8 := hX7.below ((Below.refl _ _).drew)
  have hQ8 := hQ7.below ((Below.refl _ _).drew)
  simp only at hX8 hQ8
  obtain ⟨w7, hw7⟩ : ∃ w7, ((((wc.setCell ⟨g, i * 4, none⟩ (.slice eA l1.length ec)).setCell ⟨g, i * 4 + 1, none⟩ (.int .i64 st1)).setCell ⟨g, i * 4 + 2, none⟩ (.int .i64 cu1)).setCell ⟨g, i * 4 + 3, none⟩ (.int .i64 fa1)).drew = w7 := ⟨_, rfl⟩
  rw [hw7] at hX8 hQ8
  have X7 := Lib.hid hX8
  have Q7 := Lib.hid hQ8
  have HW7 := Lib.hid hw7
  clear hr6 hX7 ho7 hQ7 hX8 hQ8 hw7
  go_upto_region 15 with fail
  go_region
  clear r0 r1 r2 r3 v4 hpr rf rf0 rf1 rf2 rf3 rl q0 q1 q2 q3 hql qf
  go_upto_region 16 with fail
  rw [HW7.out]
  obtain ⟨q0, q1, q2, q3⟩ : _ ∧ _ ∧ _ ∧ _ := ⟨Q7.out.c0, Q7.out.c1, Q7.out.c2, Q7.out.c3⟩
  have hql := Q7.out.lt
  have HTD := Lib.hid (dtold_any eA ec ⟨l1, st1, cu1, fa1⟩ w7)
  unfold SagAt.sgV Rws.ryV told at HTD
  simp only at HTD
  go_wp2_with fail
  with_reducible refine HTD.out.mono ?_
  rintro e w8 ⟨rfl, hb8⟩
  have hX8 := X7.out.below hb8
  have X8 := Lib.hid hX8
  clear hX8 hb8 q0 q1 q2 q3 hql
  have hpx := X8.out.px
  obtain ⟨p0, p1, p2⟩ : _ ∧ _ ∧ _ := ⟨hpx.c0, hpx.c1, hpx.c2⟩
  have pf := hpx.free
  have hPl := hpx.lt
  have HZ := Lib.hid (hpx.set (.int .i64 0) (.int .u64 (Pln.u64 st1 : Int)) (.int .u64 (Pln.u64 cu1 : Int))).1
  have HE := Lib.hid (X8.out.ends (.int .i64 0) (.int .u64 (Pln.u64 st1 : Int)) (.int .u64 (Pln.u64 cu1 : Int)))
  clear hpx
  go_wp2
  refine bodyPost_ret (res1y (q := 4) rfl _ rfl HZ.out) rfl ?_
  exact ⟨rfl, HE.out⟩
end Go.Proofs.YthaepkpmpnofgaaGreat.ApF
