/- What the program's Decode answers, walked. No statement is proved here. -/
import Derived.Test.YthaepkpmpnofgaaHDx
import Derived.Deep.Cut
set_option linter.unusedVariables false
set_option linter.unusedSimpArgs false
namespace Go.Proofs.Ythaepkpmpnofgaa.CmnWalkD
open Go.RowKit Go.Proofs.Ythaepkpmpnofgaa.Kit Go.Proofs.Ythaepkpmpnofgaa.Rdr Go.Proofs.Ythaepkpmpnofgaa.Stq Go.Proofs.Ythaepkpmpnofgaa.Pln Go.Proofs.Ythaepkpmpnofgaa.Wtr Go.Proofs.Ythaepkpmpnofgaa.Cmd Go.Proofs.Ythaepkpmpnofgaa.CmdAt Go.Proofs.Ythaepkpmpnofgaa.CmnWalkA Go.Proofs.Ythaepkpmpnofgaa.Dx
open Go.Proofs.Ythaepkpmpnofgaa.State (Only cell_at free_at lt_at set_at)
open Go.Proofs.Ythaepkpmpnofgaa.PlnWalkD (own_keep)
open Go.Proofs.Ythaepkpmpnofgaa.PckWalkC (gotB gotB_lt)
open Go.Proofs.Ythaepkpmpnofgaa.PckWalkE (upV truth)

/-- Steps that are owned. -/
theorem own_cat {w : World} {B : Nat} {A : Option Addr} {n c : Nat} {m : Cm} (h : w.ownsRow B 44 3 (.slice A n c) m.l.length (scells m.l)) (f : m.l.length ≤ 64 ∧ ∀ e ∈ m.l, e.nm.size ≤ 16) (g : Fin m) : CAt w A n m := by
  obtain ⟨A', c', e, _, _, hr⟩ := own_form h
  cases e
  exact ⟨hr, by have := f.1; omega, fun e he => by have := f.2 e he; omega, g⟩
set_option maxRecDepth 100000 in
set_option maxHeartbeats 16000000 in
theorem dec_any (s : ByteArray) (w : World) (hs : s.size ≤ 9223372036854775807) : Calls Try.prog 14 #[.string s] w (Dec w s) := by
  obtain ⟨r1, r2, r3, r4, r5, K, s1, s2, s3, n4, hN⟩ := named s hs
  have N1 := hN.h1
  have N2 := hN.h2
  have N3 := hN.h3
  have N4 := hN.h4
  have N5 := hN.h5
  have NK := hN.k
  have G1 := hN.g1
  have G2 := hN.g2
  have G3 := hN.g3
  have G4 := hN.g4
  have z1 := hN.z1
  have z2 := hN.z2
  have z3 := hN.z3
  have z4 := hN.z4
  have z5 := hN.z5
  have HFI : Hid (∀ m : Cm, m.ss = s1 → m.sq = s2 → m.sg = s3 → m.nw = n4 → Fin m) := fun m a b c d => ⟨by rw [a, ← hN.g1.out]; exact gotB_lt _, by rw [b, ← hN.g2.out]; exact gotB_lt _, by rw [c, ← hN.g3.out]; exact gotB_lt _, by rw [d, ← hN.g4.out]; exact gotB_lt _⟩
  have HN := Lib.hid hN
  have hs0 : (q0 s).s.size ≤ 9223372036854775807 := hs
  have NK0 : Hid (upV (q0 s).s 5 = K) := NK
  have N10 : Hid ((q0 s).up 5 = r1) := N1
  clear hN
  have hbo : ∀ (W : World) o, Below W.heap.size W (W.alloc o) := fun W o => (Below.refl _ _).alloc (Nat.le_refl _) o
  have hP := Bx.new w (.int .i64 0) (.int .u64 0) (.int .u64 0) (.int .u64 0) (.slice none 0 0) (.int .i64 0) (.bool false) (.int .i64 0) (.bool false) (.int .u64 0)
  have hb0 := hbo w (.cells #[.int .i64 0, .int .u64 0, .int .u64 0, .int .u64 0, .slice none 0 0, .int .i64 0, .bool false, .int .i64 0, .bool false, .int .u64 0] 41)
  obtain ⟨w0, hw0⟩ : ∃ x, w.alloc (.cells #[.int .i64 0, .int .u64 0, .int .u64 0, .int .u64 0, .slice none 0 0, .int .i64 0, .bool false, .int .i64 0, .bool false, .int .u64 0] 41) = x := ⟨_, rfl⟩
  obtain ⟨P, hPe⟩ : ∃ x, w.heap.size = x := ⟨_, rfl⟩
  rw [hw0] at hP hb0
  rw [hPe] at hP
  have HW0 := Lib.hid hw0
  have HPE := Lib.hid hPe
  have HB0 := Lib.hid hb0
  clear hw0 hb0
  go_enter Try.func14, Try.ntmps14
  go_wp2_with fail
  rw [HW0.out]
  with_reducible refine (from_rp s w0).mono ?_
  rintro e wa ⟨q, rfl, hR⟩
  have hPa := hP.below hR.bel
  have hPq : P ≠ q := by have := hP.lt; have := hR.low; omega
  go_wp2_with fail
  with_reducible refine (rp_up 5 hR hs0 (by decide) NK0 N10).mono ?_
  rintro e wb ⟨rfl, hRb, hOb⟩
  have hPb := hPa.keep hOb hPq
  have hqb := hRb.lt
  have hPl := hPb.lt
  clear hP hPa hR hOb
  have hX := Bx.new wb (.int .i64 (K : Int)) (.int .u64 0) (.int .u64 0) (.int .u64 0) (.slice none 0 0) (.int .i64 0) (.bool false) (.int .i64 0) (.bool false) (.int .u64 0)
  have hbc := hbo wb (.cells #[.int .i64 (K : Int), .int .u64 0, .int .u64 0, .int .u64 0, .slice none 0 0, .int .i64 0, .bool false, .int .i64 0, .bool false, .int .u64 0] 41)
  obtain ⟨wc, hwc⟩ : ∃ x, wb.alloc (.cells #[.int .i64 (K : Int), .int .u64 0, .int .u64 0, .int .u64 0, .slice none 0 0, .int .i64 0, .bool false, .int .i64 0, .bool false, .int .u64 0] 41) = x := ⟨_, rfl⟩
  obtain ⟨G, hGe⟩ : ∃ x, wb.heap.size = x := ⟨_, rfl⟩
  rw [hwc] at hX hbc
  rw [hGe] at hX
  have HWc := Lib.hid hwc
  have DC : Dx 96 w w0 wc P q G r1 (.int .i64 (K : Int)) (.int .u64 0) (.int .u64 0) (.int .u64 0) (.slice none 0 0) (.int .i64 0) (.bool false) (.int .i64 0) (.bool false) (.int .u64 0) :=
    ⟨hRb.below hbc, hPb.below hbc, hX, HB0.out, hPq, by omega, by omega, by rw [HPE.out]; exact Nat.le_refl _, by have := hRb.bel.size; omega⟩
  clear hwc hX hbc hRb hPb hbo
  go_wp2_with fail
  rw [HWc.out]
  with_reducible refine (dp_num DC z1 G1 N2).mono ?_
  rintro e wd ⟨rfl, DD⟩
  clear DC hqb hPl hPe hGe
  go_wp2_with fail
  with_reducible refine (dp_num DD z2 G2 N3).mono ?_
  rintro e we ⟨rfl, DE⟩
  clear DD
  go_wp2_with fail
  with_reducible refine (dp_num DE z3 G3 N4).mono ?_
  rintro e wf ⟨rfl, DF⟩
  clear DE
  go_wp2_with fail
  with_reducible refine (dp_num DF z4 G4 N5).mono ?_
  rintro e wg ⟨rfl, DG⟩
  clear DF
  obtain ⟨y0, y1, y2, y3, y4, y5, y6, y7, y8, y9⟩ := DG.gx.all
  have gf := DG.gx.free
  have hGl := DG.gx.lt
  have D5 := (((DG.set1 (.int .u64 (s1 : Int))).set2 (.int .u64 (s2 : Int))).set3 (.int .u64 (s3 : Int))).set9 (.int .u64 (n4 : Int))
  obtain ⟨w5, hw5⟩ : ∃ x, (((wg.setCell ⟨G, 1, none⟩ (.int .u64 (s1 : Int))).setCell ⟨G, 2, none⟩ (.int .u64 (s2 : Int))).setCell ⟨G, 3, none⟩ (.int .u64 (s3 : Int))).setCell ⟨G, 9, none⟩ (.int .u64 (n4 : Int)) = x := ⟨_, rfl⟩
  rw [hw5] at D5
  have HW5 := Lib.hid hw5
  clear hw5 DG
  go_upto_region 4 with fail
  rw [HW5.out]
  clear y0 y1 y2 y3 y4 y5 y6 y7 y8 y9 hGl gf
  rcases Nat.decEq K 2 with hk2 | hk2
  · have k2 : ((K : Int) == 2) = false := by simp only [beq_eq_false_iff_ne, ne_eq]; omega
    rcases Nat.decEq K 4 with hk4 | hk4
    · have k4 : ((K : Int) == 4) = false := by simp only [beq_eq_false_iff_ne, ne_eq]; omega
      have HM := Lib.hid (HN.out.plain hk2 hk4)
      have HOWN := Lib.hid (World.ownsRow_nil w5 w5.heap.size 44 3)
      have HBB : Hid (P < w5.heap.size ∧ q < w5.heap.size ∧ G < w5.heap.size) := ⟨D5.px.lt, D5.rd.lt, D5.gx.lt⟩
      have HFEW : Hid (([] : List Sp).length ≤ 64 ∧ ∀ e ∈ ([] : List Sp), e.nm.size ≤ 16) := ⟨by simp, by simp⟩
      have HFIN : Hid (Fin ⟨(K : Nat), s1, s2, s3, [], 0, false, 0, false, n4⟩) := HFI.out ⟨_, _, _, _, _, _, _, _, _, _⟩ rfl rfl rfl rfl
      have D := D5
      clear D5 hk2 hk4
      have hyes := yes_is s HM.out
      obtain ⟨dn, hdn⟩ : ∃ b, r5.done = b := ⟨_, rfl⟩
      obtain ⟨mb, hmb⟩ : ∃ b, mayB ⟨(K : Nat), s1, s2, s3, [], 0, false, 0, false, n4⟩ = b := ⟨_, rfl⟩
      rw [hdn, hmb] at hyes
      have HDN := Lib.hid hdn
      have HMB := Lib.hid hmb
      have HY := Lib.hid hyes
      have hx := D.gx
      have hp := D.px
      obtain ⟨y0, y1, y2, y3, y4, y5, y6, y7, y8, y9⟩ := hx.all
      have hGl := hx.lt
      have hPl := hp.lt
      clear hyes hdn hmb hx hp
      go_wp2_with fail
      with_reducible refine (rp_done D.rd HDN).mono ?_
      rintro e w7 hk
      obtain ⟨rfl, D7⟩ := D.ran hk
      have HOWN7 := Lib.hid (own_keep hk.2.2 HOWN.out fun g hg => by have := (HOWN.out.lt g hg).1; have := HBB.out; omega)
      have HSZ7 := hk.2.2.size
      clear hk D y0 y1 y2 y3 y4 y5 y6 y7 y8 y9 hGl hPl
      obtain ⟨y0, y1, y2, y3, y4, y5, y6, y7, y8, y9⟩ := D7.gx.all
      obtain ⟨p0, p1, p2, p3, p4, p5, p6, p7, p8, p9⟩ := D7.px.all
      have pf := D7.px.free
      have hGl := D7.gx.lt
      have hPl := D7.px.lt
      cases dn with
      | false =>
        have HNO : Hid (dec s = zeroC ∧ decZ s = 2) := dec_no (by rw [HY.out]; rfl)
        have HZ := Lib.hid (D7.px.set (.int .i64 0) (.int .u64 0) (.int .u64 0) (.int .u64 0) (.slice none 0 0) (.int .i64 0) (.bool false) (.int .i64 0) (.bool false) (.int .u64 0))
        have HALL := Lib.hid D7.all
        have HLP := Lib.hid D7.lp
        clear D7
        go_wp2
        refine bodyPost_ret (res2 (p := 2) (u := 3) rfl _ rfl HZ.out.1) rfl ?_
        exact ⟨none, 0, 0, by rw [HNO.out.1, HNO.out.2]; rfl, by rw [HNO.out.1]; exact cat_zero _, HALL.out.trans (HZ.out.2.below HALL.out.size fun k hk => by rw [hk]; exact HLP.out), new_nil _⟩
      | true =>
        have hcat := own_cat (m := ⟨(K : Nat), s1, s2, s3, [], 0, false, 0, false, n4⟩) HOWN7.out HFEW.out HFIN.out
        have HMAY := Lib.hid (may_any 0 hcat)
        rw [HMB.out] at HMAY
        unfold cmV at HMAY
        simp only at HMAY
        clear hcat
        go_wp2_with fail
        with_reducible refine HMAY.out.mono ?_
        rintro e w8 ⟨rfl, hb8⟩
        have D8 := D7.below hb8
        have HOWN8 := Lib.hid (own_keep (S := fun _ => False) (Only.of_below hb8) HOWN7.out (fun _ _ h => h))
        have HSZ8 := hb8.size
        clear D7 y0 y1 y2 y3 y4 y5 y6 y7 y8 y9 p0 p1 p2 p3 p4 p5 p6 p7 p8 p9 pf hGl hPl hb8 HMAY
        obtain ⟨y0, y1, y2, y3, y4, y5, y6, y7, y8, y9⟩ := D8.gx.all
        obtain ⟨p0, p1, p2, p3, p4, p5, p6, p7, p8, p9⟩ := D8.px.all
        have pf := D8.px.free
        have hGl := D8.gx.lt
        have hPl := D8.px.lt
        cases mb with
        | false =>
          have HNO : Hid (dec s = zeroC ∧ decZ s = 2) := dec_no (by rw [HY.out]; rfl)
          have HZ := Lib.hid (D8.px.set (.int .i64 0) (.int .u64 0) (.int .u64 0) (.int .u64 0) (.slice none 0 0) (.int .i64 0) (.bool false) (.int .i64 0) (.bool false) (.int .u64 0))
          have HALL := Lib.hid D8.all
          have HLP := Lib.hid D8.lp
          clear D8
          go_wp2
          refine bodyPost_ret (res2 (p := 2) (u := 3) rfl _ rfl HZ.out.1) rfl ?_
          exact ⟨none, 0, 0, by rw [HNO.out.1, HNO.out.2]; rfl, by rw [HNO.out.1]; exact cat_zero _, HALL.out.trans (HZ.out.2.below HALL.out.size fun k hk => by rw [hk]; exact HLP.out), new_nil _⟩
        | true =>
          have HYE : Hid (dec s = ⟨(K : Nat), s1, s2, s3, [], 0, false, 0, false, n4⟩ ∧ decZ s = 0) := by
            have h := dec_yes (s := s) (by rw [HY.out]; rfl)
            rw [HM.out.1] at h
            exact h
          have HZ := Lib.hid (D8.px.set (.int .i64 (K : Int)) (.int .u64 (s1 : Int)) (.int .u64 (s2 : Int)) (.int .u64 (s3 : Int)) (.slice none 0 0) (.int .i64 0) (.bool false) (.int .i64 0) (.bool false) (.int .u64 (n4 : Int)))
          have HALL := Lib.hid D8.all
          have HLP := Lib.hid D8.lp
          clear D8
          go_wp2
          refine bodyPost_ret (res2 (p := 2) (u := 3) rfl _ rfl HZ.out.1) rfl ?_
          refine ⟨none, 0, 0, by rw [HYE.out.1, HYE.out.2]; rfl, ?_, HALL.out.trans (HZ.out.2.below HALL.out.size fun k hk => by rw [hk]; exact HLP.out), own_new HOWN8.out (by have := HBB.out; have := HPE.out; omega)⟩
          rw [HYE.out.1]
          exact own_cat (m := ⟨(K : Nat), s1, s2, s3, [], 0, false, 0, false, n4⟩) (own_keep HZ.out.2 HOWN8.out fun g hg => by have := (HOWN8.out.lt g hg).1; have := HBB.out; omega) HFEW.out HFIN.out
    · have k4 : ((K : Int) == 4) = true := by simp only [beq_iff_eq]; omega
      obtain ⟨q1, q2, q3, q4, oa, oc, ob, od, hO⟩ := namedo r5 z5
      have HM := Lib.hid (HN.out.outc hk4 hO)
      have O1 := hO.h1
      have O2 := hO.h2
      have O3 := hO.h3
      have O4 := hO.h4
      have U1 := hO.g1
      have U2 := hO.g2
      have U3 := hO.g3
      have U4 := hO.g4
      have t1 := hO.z1
      have t2 := hO.z2
      have t3 := hO.z3
      clear hO hk2 hk4
      obtain ⟨y0, y1, y2, y3, y4, y5, y6, y7, y8, y9⟩ := D5.gx.all
      have hGl := D5.gx.lt
      go_wp2_with fail
      with_reducible refine (dp_up 63 D5 z5 (by decide) U1 O1).mono ?_
      rintro e wA ⟨rfl, DA⟩
      clear D5 y0 y1 y2 y3 y4 y5 y6 y7 y8 y9 hGl
      go_wp2_with fail
      with_reducible refine (dp_bool DA t1 U2 O2).mono ?_
      rintro e wB ⟨rfl, DB⟩
      clear DA
      obtain ⟨y0, y1, y2, y3, y4, y5, y6, y7, y8, y9⟩ := DB.gx.all
      have gf := DB.gx.free
      have hGl := DB.gx.lt
      have DC := (DB.set5 (.int .i64 (oa : Int))).set6 (.bool ob)
      obtain ⟨wC, hwC⟩ : ∃ x, (wB.setCell ⟨G, 5, none⟩ (.int .i64 (oa : Int))).setCell ⟨G, 6, none⟩ (.bool ob) = x := ⟨_, rfl⟩
      rw [hwC] at DC
      have HWC := Lib.hid hwC
      clear hwC DB
      go_upto_region 9 with fail
      rw [HWC.out]
      clear y0 y1 y2 y3 y4 y5 y6 y7 y8 y9 hGl gf
      go_wp2_with fail
      with_reducible refine (dp_up 8 DC t2 (by decide) U3 O3).mono ?_
      rintro e wE ⟨rfl, DE⟩
      clear DC
      go_wp2_with fail
      with_reducible refine (dp_bool DE t3 U4 O4).mono ?_
      rintro e wF ⟨rfl, DF⟩
      clear DE
      obtain ⟨y0, y1, y2, y3, y4, y5, y6, y7, y8, y9⟩ := DF.gx.all
      have gf := DF.gx.free
      have hGl := DF.gx.lt
      have D := (DF.set7 (.int .i64 (oc : Int))).set8 (.bool od)
      obtain ⟨w6, hw6⟩ : ∃ x, (wF.setCell ⟨G, 7, none⟩ (.int .i64 (oc : Int))).setCell ⟨G, 8, none⟩ (.bool od) = x := ⟨_, rfl⟩
      rw [hw6] at D
      have HW6 := Lib.hid hw6
      clear hw6 DF
      go_upto_region 10 with fail
      rw [HW6.out]
      clear y0 y1 y2 y3 y4 y5 y6 y7 y8 y9 hGl gf
      have HOWN := Lib.hid (World.ownsRow_nil w6 w6.heap.size 44 3)
      have HBB : Hid (P < w6.heap.size ∧ q < w6.heap.size ∧ G < w6.heap.size) := ⟨D.px.lt, D.rd.lt, D.gx.lt⟩
      have HFEW : Hid (([] : List Sp).length ≤ 64 ∧ ∀ e ∈ ([] : List Sp), e.nm.size ≤ 16) := ⟨by simp, by simp⟩
      have HFIN : Hid (Fin ⟨(K : Nat), s1, s2, s3, [], (oa : Nat), ob, (oc : Nat), od, n4⟩) := HFI.out ⟨_, _, _, _, _, _, _, _, _, _⟩ rfl rfl rfl rfl
      have hyes := yes_is s HM.out
      obtain ⟨dn, hdn⟩ : ∃ b, q4.done = b := ⟨_, rfl⟩
      obtain ⟨mb, hmb⟩ : ∃ b, mayB ⟨(K : Nat), s1, s2, s3, [], (oa : Nat), ob, (oc : Nat), od, n4⟩ = b := ⟨_, rfl⟩
      rw [hdn, hmb] at hyes
      have HDN := Lib.hid hdn
      have HMB := Lib.hid hmb
      have HY := Lib.hid hyes
      have hx := D.gx
      have hp := D.px
      obtain ⟨y0, y1, y2, y3, y4, y5, y6, y7, y8, y9⟩ := hx.all
      have hGl := hx.lt
      have hPl := hp.lt
      clear hyes hdn hmb hx hp
      go_wp2_with fail
      with_reducible refine (rp_done D.rd HDN).mono ?_
      rintro e w7 hk
      obtain ⟨rfl, D7⟩ := D.ran hk
      have HOWN7 := Lib.hid (own_keep hk.2.2 HOWN.out fun g hg => by have := (HOWN.out.lt g hg).1; have := HBB.out; omega)
      have HSZ7 := hk.2.2.size
      clear hk D y0 y1 y2 y3 y4 y5 y6 y7 y8 y9 hGl hPl
      obtain ⟨y0, y1, y2, y3, y4, y5, y6, y7, y8, y9⟩ := D7.gx.all
      obtain ⟨p0, p1, p2, p3, p4, p5, p6, p7, p8, p9⟩ := D7.px.all
      have pf := D7.px.free
      have hGl := D7.gx.lt
      have hPl := D7.px.lt
      cases dn with
      | false =>
        have HNO : Hid (dec s = zeroC ∧ decZ s = 2) := dec_no (by rw [HY.out]; rfl)
        have HZ := Lib.hid (D7.px.set (.int .i64 0) (.int .u64 0) (.int .u64 0) (.int .u64 0) (.slice none 0 0) (.int .i64 0) (.bool false) (.int .i64 0) (.bool false) (.int .u64 0))
        have HALL := Lib.hid D7.all
        have HLP := Lib.hid D7.lp
        clear D7
        go_wp2
        refine bodyPost_ret (res2 (p := 2) (u := 3) rfl _ rfl HZ.out.1) rfl ?_
        exact ⟨none, 0, 0, by rw [HNO.out.1, HNO.out.2]; rfl, by rw [HNO.out.1]; exact cat_zero _, HALL.out.trans (HZ.out.2.below HALL.out.size fun k hk => by rw [hk]; exact HLP.out), new_nil _⟩
      | true =>
        have hcat := own_cat (m := ⟨(K : Nat), s1, s2, s3, [], (oa : Nat), ob, (oc : Nat), od, n4⟩) HOWN7.out HFEW.out HFIN.out
        have HMAY := Lib.hid (may_any 0 hcat)
        rw [HMB.out] at HMAY
        unfold cmV at HMAY
        simp only at HMAY
        clear hcat
        go_wp2_with fail
        with_reducible refine HMAY.out.mono ?_
        rintro e w8 ⟨rfl, hb8⟩
        have D8 := D7.below hb8
        have HOWN8 := Lib.hid (own_keep (S := fun _ => False) (Only.of_below hb8) HOWN7.out (fun _ _ h => h))
        have HSZ8 := hb8.size
        clear D7 y0 y1 y2 y3 y4 y5 y6 y7 y8 y9 p0 p1 p2 p3 p4 p5 p6 p7 p8 p9 pf hGl hPl hb8 HMAY
        obtain ⟨y0, y1, y2, y3, y4, y5, y6, y7, y8, y9⟩ := D8.gx.all
        obtain ⟨p0, p1, p2, p3, p4, p5, p6, p7, p8, p9⟩ := D8.px.all
        have pf := D8.px.free
        have hGl := D8.gx.lt
        have hPl := D8.px.lt
        cases mb with
        | false =>
          have HNO : Hid (dec s = zeroC ∧ decZ s = 2) := dec_no (by rw [HY.out]; rfl)
          have HZ := Lib.hid (D8.px.set (.int .i64 0) (.int .u64 0) (.int .u64 0) (.int .u64 0) (.slice none 0 0) (.int .i64 0) (.bool false) (.int .i64 0) (.bool false) (.int .u64 0))
          have HALL := Lib.hid D8.all
          have HLP := Lib.hid D8.lp
          clear D8
          go_wp2
          refine bodyPost_ret (res2 (p := 2) (u := 3) rfl _ rfl HZ.out.1) rfl ?_
          exact ⟨none, 0, 0, by rw [HNO.out.1, HNO.out.2]; rfl, by rw [HNO.out.1]; exact cat_zero _, HALL.out.trans (HZ.out.2.below HALL.out.size fun k hk => by rw [hk]; exact HLP.out), new_nil _⟩
        | true =>
          have HYE : Hid (dec s = ⟨(K : Nat), s1, s2, s3, [], (oa : Nat), ob, (oc : Nat), od, n4⟩ ∧ decZ s = 0) := by
            have h := dec_yes (s := s) (by rw [HY.out]; rfl)
            rw [HM.out.1] at h
            exact h
          have HZ := Lib.hid (D8.px.set (.int .i64 (K : Int)) (.int .u64 (s1 : Int)) (.int .u64 (s2 : Int)) (.int .u64 (s3 : Int)) (.slice none 0 0) (.int .i64 (oa : Int)) (.bool ob) (.int .i64 (oc : Int)) (.bool od) (.int .u64 (n4 : Int)))
          have HALL := Lib.hid D8.all
          have HLP := Lib.hid D8.lp
          clear D8
          go_wp2
          refine bodyPost_ret (res2 (p := 2) (u := 3) rfl _ rfl HZ.out.1) rfl ?_
          refine ⟨none, 0, 0, by rw [HYE.out.1, HYE.out.2]; rfl, ?_, HALL.out.trans (HZ.out.2.below HALL.out.size fun k hk => by rw [hk]; exact HLP.out), own_new HOWN8.out (by have := HBB.out; have := HPE.out; omega)⟩
          rw [HYE.out.1]
          exact own_cat (m := ⟨(K : Nat), s1, s2, s3, [], (oa : Nat), ob, (oc : Nat), od, n4⟩) (own_keep HZ.out.2 HOWN8.out fun g hg => by have := (HOWN8.out.lt g hg).1; have := HBB.out; omega) HFEW.out HFIN.out
  · have k2 : ((K : Int) == 2) = true := by simp only [beq_iff_eq]; omega
    have k4 : ((K : Int) == 4) = false := by simp only [beq_eq_false_iff_ne, ne_eq]; omega
    obtain ⟨l, hl⟩ : ∃ l, rPlan r5 = l := ⟨_, rfl⟩
    obtain ⟨rE, hrE⟩ : ∃ r, rEnd r5 = r := ⟨_, rfl⟩
    have hfew := plan_in r5
    rw [hl] at hfew
    have HL := Lib.hid hl
    have HRE := Lib.hid hrE
    have HM := Lib.hid (HN.out.subm hk2 HL HRE)
    have HFEW : Hid (l.length ≤ 64 ∧ ∀ e ∈ l, e.nm.size ≤ 16) := hfew
    have HFIN : Hid (Fin ⟨(K : Nat), s1, s2, s3, l, 0, false, 0, false, n4⟩) := HFI.out ⟨_, _, _, _, _, _, _, _, _, _⟩ rfl rfl rfl rfl
    clear hl hrE hfew hk2
    obtain ⟨y0, y1, y2, y3, y4, y5, y6, y7, y8, y9⟩ := D5.gx.all
    have hGl := D5.gx.lt
    have HBB : Hid (P < w5.heap.size ∧ q < w5.heap.size ∧ G < w5.heap.size) := ⟨D5.px.lt, D5.rd.lt, D5.gx.lt⟩
    go_wp2_with fail
    with_reducible refine (PlnWalkD.read_any D5.rd z5 HL HRE).mono ?_
    intro e wA hk
    obtain ⟨v, rfl, hownA, DA⟩ := D5.plan hk
    obtain ⟨A, c, rfl, _, _, _⟩ := own_form hownA
    obtain ⟨n, hn⟩ : ∃ n, l.length = n := ⟨_, rfl⟩
    rw [hn] at hownA
    have HLN := Lib.hid hn
    clear hk D5 y0 y1 y2 y3 y4 y5 y6 y7 y8 y9 hGl
    obtain ⟨y0, y1, y2, y3, y4, y5, y6, y7, y8, y9⟩ := DA.gx.all
    have gf := DA.gx.free
    have hGl := DA.gx.lt
    have D := DA.set4 (.slice A n c)
    have hset := (DA.gx.set4 (.slice A n c)).2
    have hown6 := own_keep hset hownA fun g hg => by have := (hownA.lt g hg).1; have := HBB.out; omega
    obtain ⟨w6, hw6⟩ : ∃ x, wA.setCell ⟨G, 4, none⟩ (.slice A n c) = x := ⟨_, rfl⟩
    rw [hw6] at D hown6
    have HW6 := Lib.hid hw6
    have HOWN : Hid (w6.ownsRow w5.heap.size 44 3 (.slice A n c) l.length (scells l)) := by
      have : w6.ownsRow w5.heap.size 44 3 (.slice A n c) l.length (scells l) := by rw [HLN.out]; exact hown6
      exact this
    clear hw6 DA hownA hown6 hset
    simp only [hn]
    clear hn
    go_upto_region 10 with fail
    rw [HW6.out]
    clear y0 y1 y2 y3 y4 y5 y6 y7 y8 y9 hGl gf
    have hyes := yes_is s HM.out
    obtain ⟨dn, hdn⟩ : ∃ b, rE.done = b := ⟨_, rfl⟩
    obtain ⟨mb, hmb⟩ : ∃ b, mayB ⟨(K : Nat), s1, s2, s3, l, 0, false, 0, false, n4⟩ = b := ⟨_, rfl⟩
    rw [hdn, hmb] at hyes
    have HDN := Lib.hid hdn
    have HMB := Lib.hid hmb
    have HY := Lib.hid hyes
    have hx := D.gx
    have hp := D.px
    obtain ⟨y0, y1, y2, y3, y4, y5, y6, y7, y8, y9⟩ := hx.all
    have hGl := hx.lt
    have hPl := hp.lt
    clear hyes hdn hmb hx hp
    go_wp2_with fail
    with_reducible refine (rp_done D.rd HDN).mono ?_
    rintro e w7 hk
    obtain ⟨rfl, D7⟩ := D.ran hk
    have HOWN7 := Lib.hid (own_keep hk.2.2 HOWN.out fun g hg => by have := (HOWN.out.lt g hg).1; have := HBB.out; omega)
    have HSZ7 := hk.2.2.size
    clear hk D y0 y1 y2 y3 y4 y5 y6 y7 y8 y9 hGl hPl
    obtain ⟨y0, y1, y2, y3, y4, y5, y6, y7, y8, y9⟩ := D7.gx.all
    obtain ⟨p0, p1, p2, p3, p4, p5, p6, p7, p8, p9⟩ := D7.px.all
    have pf := D7.px.free
    have hGl := D7.gx.lt
    have hPl := D7.px.lt
    cases dn with
    | false =>
      have HNO : Hid (dec s = zeroC ∧ decZ s = 2) := dec_no (by rw [HY.out]; rfl)
      have HZ := Lib.hid (D7.px.set (.int .i64 0) (.int .u64 0) (.int .u64 0) (.int .u64 0) (.slice none 0 0) (.int .i64 0) (.bool false) (.int .i64 0) (.bool false) (.int .u64 0))
      have HALL := Lib.hid D7.all
      have HLP := Lib.hid D7.lp
      clear D7
      go_wp2
      refine bodyPost_ret (res2 (p := 2) (u := 3) rfl _ rfl HZ.out.1) rfl ?_
      exact ⟨none, 0, 0, by rw [HNO.out.1, HNO.out.2]; rfl, by rw [HNO.out.1]; exact cat_zero _, HALL.out.trans (HZ.out.2.below HALL.out.size fun k hk => by rw [hk]; exact HLP.out), new_nil _⟩
    | true =>
      have hcat := own_cat (m := ⟨(K : Nat), s1, s2, s3, l, 0, false, 0, false, n4⟩) HOWN7.out HFEW.out HFIN.out
      have HMAY := Lib.hid (may_any c hcat)
      rw [HMB.out] at HMAY
      unfold cmV at HMAY
      simp only at HMAY
      clear hcat
      go_wp2_with fail
      with_reducible refine HMAY.out.mono ?_
      rintro e w8 ⟨rfl, hb8⟩
      have D8 := D7.below hb8
      have HOWN8 := Lib.hid (own_keep (S := fun _ => False) (Only.of_below hb8) HOWN7.out (fun _ _ h => h))
      have HSZ8 := hb8.size
      clear D7 y0 y1 y2 y3 y4 y5 y6 y7 y8 y9 p0 p1 p2 p3 p4 p5 p6 p7 p8 p9 pf hGl hPl hb8 HMAY
      obtain ⟨y0, y1, y2, y3, y4, y5, y6, y7, y8, y9⟩ := D8.gx.all
      obtain ⟨p0, p1, p2, p3, p4, p5, p6, p7, p8, p9⟩ := D8.px.all
      have pf := D8.px.free
      have hGl := D8.gx.lt
      have hPl := D8.px.lt
      cases mb with
      | false =>
        have HNO : Hid (dec s = zeroC ∧ decZ s = 2) := dec_no (by rw [HY.out]; rfl)
        have HZ := Lib.hid (D8.px.set (.int .i64 0) (.int .u64 0) (.int .u64 0) (.int .u64 0) (.slice none 0 0) (.int .i64 0) (.bool false) (.int .i64 0) (.bool false) (.int .u64 0))
        have HALL := Lib.hid D8.all
        have HLP := Lib.hid D8.lp
        clear D8
        go_wp2
        refine bodyPost_ret (res2 (p := 2) (u := 3) rfl _ rfl HZ.out.1) rfl ?_
        exact ⟨none, 0, 0, by rw [HNO.out.1, HNO.out.2]; rfl, by rw [HNO.out.1]; exact cat_zero _, HALL.out.trans (HZ.out.2.below HALL.out.size fun k hk => by rw [hk]; exact HLP.out), new_nil _⟩
      | true =>
        have HYE : Hid (dec s = ⟨(K : Nat), s1, s2, s3, l, 0, false, 0, false, n4⟩ ∧ decZ s = 0) := by
          have h := dec_yes (s := s) (by rw [HY.out]; rfl)
          rw [HM.out.1] at h
          exact h
        have HZ := Lib.hid (D8.px.set (.int .i64 (K : Int)) (.int .u64 (s1 : Int)) (.int .u64 (s2 : Int)) (.int .u64 (s3 : Int)) (.slice A n c) (.int .i64 0) (.bool false) (.int .i64 0) (.bool false) (.int .u64 (n4 : Int)))
        have HALL := Lib.hid D8.all
        have HLP := Lib.hid D8.lp
        clear D8
        go_wp2
        refine bodyPost_ret (res2 (p := 2) (u := 3) rfl _ rfl HZ.out.1) rfl ?_
        refine ⟨A, n, c, by rw [HYE.out.1, HYE.out.2]; rfl, ?_, HALL.out.trans (HZ.out.2.below HALL.out.size fun k hk => by rw [hk]; exact HLP.out), own_new HOWN8.out (by have := HBB.out; have := HPE.out; omega)⟩
        rw [HYE.out.1]
        exact own_cat (m := ⟨(K : Nat), s1, s2, s3, l, 0, false, 0, false, n4⟩) (own_keep HZ.out.2 HOWN8.out fun g hg => by have := (HOWN8.out.lt g hg).1; have := HBB.out; omega) HFEW.out HFIN.out
end Go.Proofs.Ythaepkpmpnofgaa.CmnWalkD
