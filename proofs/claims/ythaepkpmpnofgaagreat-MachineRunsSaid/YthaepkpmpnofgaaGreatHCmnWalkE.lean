/- What the document's Decode answers, walked. No statement is proved here. -/
import Derived.Test.YthaepkpmpnofgaaGreatHCmnWalkC
import Derived.Test.YthaepkpmpnofgaaGreatGD
import Derived.Deep.Cut
set_option linter.unusedVariables false
set_option linter.unusedSimpArgs false
namespace Go.Proofs.YthaepkpmpnofgaaGreat.CmnWalkE
open Go.RowKit Go.Proofs.YthaepkpmpnofgaaGreat.Kit Go.Proofs.YthaepkpmpnofgaaGreat.Rdr Go.Proofs.YthaepkpmpnofgaaGreat.Stq Go.Proofs.YthaepkpmpnofgaaGreat.Pln Go.Proofs.YthaepkpmpnofgaaGreat.Wtr Go.Proofs.YthaepkpmpnofgaaGreat.Cmd Go.Proofs.YthaepkpmpnofgaaGreat.CmdAt Go.Proofs.YthaepkpmpnofgaaGreat.CmnWalkA Go.Proofs.YthaepkpmpnofgaaGreat.CmnWalkB Go.Proofs.YthaepkpmpnofgaaGreat.CmnWalkC Go.Proofs.YthaepkpmpnofgaaGreat.Dx Go.Proofs.YthaepkpmpnofgaaGreat.CmnWalkD
open Go.Proofs.YthaepkpmpnofgaaGreat.State (Only cell_at free_at lt_at set_at)
open Go.Proofs.YthaepkpmpnofgaaGreat.PlnWalkD (own_keep)
open Go.Proofs.YthaepkpmpnofgaaGreat.PckWalkC (gotB gotB_lt)
open Go.Proofs.YthaepkpmpnofgaaGreat.PckWalkH (str)
open Go.Proofs.YthaepkpmpnofgaaGreat.PckWalkE (upV truth)

theorem truth_eq (s : ByteArray) {x : Nat} {b : Bool} (hx : Hid (upV s 1 = x)) (hb : Hid (truth s = b)) : ((x : Int) == 1) = b := by
  rw [← hb.out, ← hx.out]
  unfold truth
  by_cases h : upV s 1 = 1
  · simp [h]
  · have : ¬ ((upV s 1 : Nat) : Int) = 1 := by omega
    simp [h, this]
theorem emp_eq (s : ByteArray) (n : Nat) (h : s.size = n) : (s.toList == []) = decide (n = 0) ∧ (s.toList != []) = !decide (n = 0) := by
  have e : (s.toList == []) = decide (n = 0) := by
    rw [Lib.toList_data, ← h, Lib.size_eq]
    cases s.data.toList <;> simp
  exact ⟨e, by show (!(s.toList == [])) = _; rw [e]⟩
set_option maxRecDepth 100000 in
set_option maxHeartbeats 16000000 in
theorem rdec_any (s : ByteArray) (w : World) (hs : s.size ≤ 9223372036854775807) : Calls Tryz.prog 16 #[.string s] w (Dec w s) := by
  obtain ⟨r1, r2, r3, r4, r5, K, s1, s2, s3, n4, hN⟩ := named s hs
  have N1 := hN.h1
  have N2 := hN.h2
  have N3 := hN.h3
  have N4 := hN.h4
  have N5 := hN.h5
  have NK := hN.k
  have G1 := hN.g1
  have G2 := hN.g2
  have G3 := hN.g3
  have G4 := hN.g4
  have z1 := hN.z1
  have z2 := hN.z2
  have z3 := hN.z3
  have z4 := hN.z4
  have z5 := hN.z5
  have HFI : Hid (∀ m : Cm, m.ss = s1 → m.sq = s2 → m.sg = s3 → m.nw = n4 → Fin m) := fun m a b c d => ⟨by rw [a, ← hN.g1.out]; exact gotB_lt _, by rw [b, ← hN.g2.out]; exact gotB_lt _, by rw [c, ← hN.g3.out]; exact gotB_lt _, by rw [d, ← hN.g4.out]; exact gotB_lt _⟩
  have HN := Lib.hid hN
  have hs0 : (q0 s).s.size ≤ 9223372036854775807 := hs
  have NK0 : Hid (upV (q0 s).s 5 = K) := NK
  have N10 : Hid ((q0 s).up 5 = r1) := N1
  have hss : (s.toList != s.toList) = false := by simp
  clear hN
  have hbo : ∀ (W : World) o, Below W.heap.size W (W.alloc o) := fun W o => (Below.refl _ _).alloc (Nat.le_refl _) o
  have hP := Bx.new w (.int .i64 0) (.int .u64 0) (.int .u64 0) (.int .u64 0) (.slice none 0 0) (.int .i64 0) (.bool false) (.int .i64 0) (.bool false) (.int .u64 0)
  have hb0 := hbo w (.cells #[.int .i64 0, .int .u64 0, .int .u64 0, .int .u64 0, .slice none 0 0, .int .i64 0, .bool false, .int .i64 0, .bool false, .int .u64 0] 42)
  obtain ⟨w0, hw0⟩ : ∃ x, w.alloc (.cells #[.int .i64 0, .int .u64 0, .int .u64 0, .int .u64 0, .slice none 0 0, .int .i64 0, .bool false, .int .i64 0, .bool false, .int .u64 0] 42) = x := ⟨_, rfl⟩
  obtain ⟨P, hPe⟩ : ∃ x, w.heap.size = x := ⟨_, rfl⟩
  rw [hw0] at hP hb0
  rw [hPe] at hP
  have HW0 := Lib.hid hw0
  have HPE := Lib.hid hPe
  have HB0 := Lib.hid hb0
  clear hw0 hb0
  have hbr := hbo w0 (.cells #[.string s, .bool false] 95)
  have hR : Rm w0 (w0.alloc (.cells #[.string s, .bool false] 95)) w0.heap.size (q0 s) := ⟨heap_alloc_new w0 _, Nat.le_refl _, hbr⟩
  have hPa := hP.below hbr
  have hPq : P ≠ w0.heap.size := by have := hP.lt; omega
  obtain ⟨wa, hwa⟩ : ∃ x, w0.alloc (.cells #[.string s, .bool false] 95) = x := ⟨_, rfl⟩
  obtain ⟨q, hq⟩ : ∃ x, P + 1 = x := ⟨_, rfl⟩
  have hq0 : w0.heap.size = q := by rw [← hq, ← hPe, ← HW0.out]; simp
  have hql : w0.heap.size ≤ q := by omega
  rw [hwa] at hR hPa
  rw [hq0] at hR hPq
  have HWA := Lib.hid hwa
  clear hwa hbr
  go_enter Tryz.func16, Tryz.ntmps16
  go_wp2_with fail
  rw [HW0.out]
  go_wp2_with fail
  rw [HWA.out]
  with_reducible refine (rm_up 5 hR hs0 (by decide) NK0 N10).mono ?_
  rintro e wb ⟨rfl, hRb, hOb⟩
  have hPb := hPa.keep hOb hPq
  have hqb := hRb.lt
  have hPl := hPb.lt
  clear hP hPa hR hOb
  have hX := Bx.new wb (.int .i64 (K : Int)) (.int .u64 0) (.int .u64 0) (.int .u64 0) (.slice none 0 0) (.int .i64 0) (.bool false) (.int .i64 0) (.bool false) (.int .u64 0)
  have hbc := hbo wb (.cells #[.int .i64 (K : Int), .int .u64 0, .int .u64 0, .int .u64 0, .slice none 0 0, .int .i64 0, .bool false, .int .i64 0, .bool false, .int .u64 0] 42)
  obtain ⟨wc, hwc⟩ : ∃ x, wb.alloc (.cells #[.int .i64 (K : Int), .int .u64 0, .int .u64 0, .int .u64 0, .slice none 0 0, .int .i64 0, .bool false, .int .i64 0, .bool false, .int .u64 0] 42) = x := ⟨_, rfl⟩
  obtain ⟨G, hGe⟩ : ∃ x, wb.heap.size = x := ⟨_, rfl⟩
  rw [hwc] at hX hbc
  rw [hGe] at hX
  have HWc := Lib.hid hwc
  have DC : Dx 95 w w0 wc P q G r1 (.int .i64 (K : Int)) (.int .u64 0) (.int .u64 0) (.int .u64 0) (.slice none 0 0) (.int .i64 0) (.bool false) (.int .i64 0) (.bool false) (.int .u64 0) :=
    ⟨hRb.below hbc, hPb.below hbc, hX, HB0.out, hPq, by omega, by omega, by rw [HPE.out]; exact Nat.le_refl _, by have := hRb.bel.size; omega⟩
  clear hwc hX hbc hRb hPb hbo
  go_wp2_with fail
  rw [HWc.out]
  with_reducible refine (dm_num DC z1 G1 N2).mono ?_
  rintro e wd ⟨rfl, DD⟩
  clear DC hqb hPl hPe hGe hq hql hq0
  obtain ⟨y0, y1, y2, y3, y4, y5, y6, y7, y8, y9⟩ := DD.gx.all
  have gf := DD.gx.free
  have hGl := DD.gx.lt
  have D1 := DD.set1 (.int .u64 (s1 : Int))
  obtain ⟨w1, hw1⟩ : ∃ x, wd.setCell ⟨G, 1, none⟩ (.int .u64 (s1 : Int)) = x := ⟨_, rfl⟩
  rw [hw1] at D1
  have HQw1 := Lib.hid hw1
  clear hw1 DD
  go_upto_region 4 with fail
  rw [HQw1.out]
  clear y0 y1 y2 y3 y4 y5 y6 y7 y8 y9 hGl gf
  go_wp2_with fail
  with_reducible refine (dm_num D1 z2 G2 N3).mono ?_
  rintro e we ⟨rfl, DE⟩
  clear D1
  obtain ⟨y0, y1, y2, y3, y4, y5, y6, y7, y8, y9⟩ := DE.gx.all
  have gf := DE.gx.free
  have hGl := DE.gx.lt
  have D2 := DE.set2 (.int .u64 (s2 : Int))
  obtain ⟨w2, hw2⟩ : ∃ x, we.setCell ⟨G, 2, none⟩ (.int .u64 (s2 : Int)) = x := ⟨_, rfl⟩
  rw [hw2] at D2
  have HQw2 := Lib.hid hw2
  clear hw2 DE
  go_upto_region 5 with fail
  rw [HQw2.out]
  clear y0 y1 y2 y3 y4 y5 y6 y7 y8 y9 hGl gf
  go_wp2_with fail
  with_reducible refine (dm_num D2 z3 G3 N4).mono ?_
  rintro e wf ⟨rfl, DF⟩
  clear D2
  obtain ⟨y0, y1, y2, y3, y4, y5, y6, y7, y8, y9⟩ := DF.gx.all
  have gf := DF.gx.free
  have hGl := DF.gx.lt
  have D3 := DF.set3 (.int .u64 (s3 : Int))
  obtain ⟨w3, hw3⟩ : ∃ x, wf.setCell ⟨G, 3, none⟩ (.int .u64 (s3 : Int)) = x := ⟨_, rfl⟩
  rw [hw3] at D3
  have HQw3 := Lib.hid hw3
  clear hw3 DF
  go_upto_region 6 with fail
  rw [HQw3.out]
  clear y0 y1 y2 y3 y4 y5 y6 y7 y8 y9 hGl gf
  go_wp2_with fail
  with_reducible refine (dm_num D3 z4 G4 N5).mono ?_
  rintro e wg ⟨rfl, DG⟩
  clear D3
  obtain ⟨y0, y1, y2, y3, y4, y5, y6, y7, y8, y9⟩ := DG.gx.all
  have gf := DG.gx.free
  have hGl := DG.gx.lt
  have D5 := DG.set9 (.int .u64 (n4 : Int))
  obtain ⟨w5, hw5⟩ : ∃ x, wg.setCell ⟨G, 9, none⟩ (.int .u64 (n4 : Int)) = x := ⟨_, rfl⟩
  rw [hw5] at D5
  have HQw5 := Lib.hid hw5
  clear hw5 DG
  go_upto_region 7 with fail
  rw [HQw5.out]
  clear y0 y1 y2 y3 y4 y5 y6 y7 y8 y9 hGl gf
  rcases Nat.decEq K 2 with hk2 | hk2
  · have k2 : ((K : Int) == 2) = false := by simp only [beq_eq_false_iff_ne, ne_eq]; omega
    rcases Nat.decEq K 4 with hk4 | hk4
    · have k4 : ((K : Int) == 4) = false := by simp only [beq_eq_false_iff_ne, ne_eq]; omega
      have HM := Lib.hid (HN.out.plain hk2 hk4)
      have HOWN := Lib.hid (World.ownsRow_nil w5 w5.heap.size 67 3)
      have HBB : Hid (P < w5.heap.size ∧ q < w5.heap.size ∧ G < w5.heap.size) := ⟨D5.px.lt, D5.rd.lt, D5.gx.lt⟩
      have HFEW : Hid (([] : List Sp).length ≤ 64 ∧ ∀ e ∈ ([] : List Sp), e.nm.size ≤ 16) := ⟨by simp, by simp⟩
      have HFIN : Hid (Fin ⟨(K : Nat), s1, s2, s3, [], 0, false, 0, false, n4⟩) := HFI.out ⟨_, _, _, _, _, _, _, _, _, _⟩ rfl rfl rfl rfl
      have D := D5
      clear D5 hk2 hk4
      have hyes := yes_is s HM.out
      have hdone : r5.done = (decide (r5.s.size = 0) && !r5.bad) := rfl
      obtain ⟨bd, hbd⟩ : ∃ b, r5.bad = b := ⟨_, rfl⟩
      obtain ⟨sz, hsz⟩ : ∃ b, r5.s.size = b := ⟨_, rfl⟩
      obtain ⟨mb, hmb⟩ : ∃ b, mayB ⟨(K : Nat), s1, s2, s3, [], 0, false, 0, false, n4⟩ = b := ⟨_, rfl⟩
      rw [hsz, hbd] at hdone
      rw [hdone, hmb] at hyes
      have HMB := Lib.hid hmb
      have HY := Lib.hid hyes
      have hcat := own_cat (m := ⟨(K : Nat), s1, s2, s3, [], 0, false, 0, false, n4⟩) HOWN.out HFEW.out HFIN.out
      have HENC := Lib.hid (renc_any 0 hcat)
      obtain ⟨y0, y1, y2, y3, y4, y5, y6, y7, y8, y9⟩ := D.gx.all
      have hGl := D.gx.lt
      obtain ⟨S, hS⟩ : ∃ S, r5.s = S := ⟨_, rfl⟩
      have hflag := D.rd.at_.flag
      have hleft := D.rd.at_.left
      have hemp := emp_eq r5.s sz hsz
      rw [hbd] at hflag
      rw [hS] at hleft hemp
      clear hyes hdone hbd hsz hmb hcat hS
      cases mb with
      | false =>
        have hz : encZ ⟨(K : Nat), s1, s2, s3, [], 0, false, 0, false, n4⟩ = 44 ∨ encZ ⟨(K : Nat), s1, s2, s3, [], 0, false, 0, false, n4⟩ = 1 := (encZ_not HMB.out).elim (fun h => .inl h.1) (fun h => .inr h.1)
        have HNO : Hid (dec s = zeroC ∧ decZ s = 2) := dec_no (by rw [HY.out, Bool.and_false])
        rw [encS_not HMB.out] at HENC
        obtain ⟨z, hze⟩ : ∃ z, encZ ⟨(K : Nat), s1, s2, s3, [], 0, false, 0, false, n4⟩ = z := ⟨_, rfl⟩
        rw [hze] at HENC hz
        have hz0 : (z != 0) = true := by rcases hz with rfl | rfl <;> rfl
        have hz1 : (z == 0) = false := by rcases hz with rfl | rfl <;> rfl
        unfold cmV Enc at HENC
        simp only at HENC
        clear hze hz
        go_wp2_with fail
        with_reducible refine HENC.out.mono ?_
        rintro e w8 ⟨rfl, hb8⟩
        have D8 := D.below hb8
        have hflag8 := (hb8.cell (p := ⟨q, 1, none⟩) D.rd.lt).trans hflag
        have hleft8 := (hb8.cell (p := ⟨q, 0, none⟩) D.rd.lt).trans hleft
        clear D y0 y1 y2 y3 y4 y5 y6 y7 y8 y9 hGl hb8 HENC hflag hleft
        obtain ⟨p0, p1, p2, p3, p4, p5, p6, p7, p8, p9⟩ := D8.px.all
        have pf := D8.px.free
        have hPl := D8.px.lt
        have hql := D8.rd.lt
        have HZ := Lib.hid (D8.px.set (.int .i64 0) (.int .u64 0) (.int .u64 0) (.int .u64 0) (.slice none 0 0) (.int .i64 0) (.bool false) (.int .i64 0) (.bool false) (.int .u64 0))
        have HALL := Lib.hid D8.all
        have HLP := Lib.hid D8.lp
        clear D8
        obtain ⟨he1, he2⟩ := hemp
        cases bd with
        | true =>
          go_wp2
          refine bodyPost_ret (res2 (p := 2) (u := 3) rfl _ rfl HZ.out.1) rfl ?_
          exact ⟨none, 0, 0, by rw [HNO.out.1, HNO.out.2]; rfl, by rw [HNO.out.1]; exact cat_zero _, HALL.out.trans (HZ.out.2.below HALL.out.size fun k hk => by rw [hk]; exact HLP.out), new_nil _⟩
        | false =>
          by_cases hsz : sz = 0
          all_goals
            simp only [hsz, decide_true, decide_false, Bool.not_true, Bool.not_false] at he1 he2
            go_wp2
            refine bodyPost_ret (res2 (p := 2) (u := 3) rfl _ rfl HZ.out.1) rfl ?_
            exact ⟨none, 0, 0, by rw [HNO.out.1, HNO.out.2]; rfl, by rw [HNO.out.1]; exact cat_zero _, HALL.out.trans (HZ.out.2.below HALL.out.size fun k hk => by rw [hk]; exact HLP.out), new_nil _⟩
      | true =>
        rw [encZ_may HMB.out, encS_may HMB.out] at HENC
        by_cases hd : (decide (sz = 0) && !bd) = true
        · have hye : yes s = true := by rw [HY.out, hd]; rfl
          have HYE : Hid (dec s = ⟨(K : Nat), s1, s2, s3, [], 0, false, 0, false, n4⟩ ∧ decZ s = 0) := by
            have h := dec_yes (s := s) hye
            rw [HM.out.1] at h
            exact h
          have hbk := (yes_back hye).2.1
          rw [HYE.out.1] at hbk
          rw [← hbk] at HENC
          simp only [Bool.and_eq_true, decide_eq_true_eq, Bool.not_eq_true'] at hd
          obtain ⟨hsz, rfl⟩ := hd
          obtain ⟨he1, he2⟩ := hemp
          simp only [hsz, decide_true, Bool.not_true] at he1 he2
          unfold cmV Enc at HENC
          simp only at HENC
          clear hbk hye
          go_wp2_with fail
          with_reducible refine HENC.out.mono ?_
          rintro e w8 ⟨rfl, hb8⟩
          have D8 := D.below hb8
          have HOWN8 := Lib.hid (own_keep (S := fun _ => False) (Only.of_below hb8) HOWN.out (fun _ _ h => h))
          have hflag8 := (hb8.cell (p := ⟨q, 1, none⟩) D.rd.lt).trans hflag
          have hleft8 := (hb8.cell (p := ⟨q, 0, none⟩) D.rd.lt).trans hleft
          clear D y0 y1 y2 y3 y4 y5 y6 y7 y8 y9 hGl hb8 HENC hflag hleft
          obtain ⟨y0, y1, y2, y3, y4, y5, y6, y7, y8, y9⟩ := D8.gx.all
          obtain ⟨p0, p1, p2, p3, p4, p5, p6, p7, p8, p9⟩ := D8.px.all
          have pf := D8.px.free
          have hPl := D8.px.lt
          have hGl := D8.gx.lt
          have hql := D8.rd.lt
          have HZ := Lib.hid (D8.px.set (.int .i64 (K : Int)) (.int .u64 (s1 : Int)) (.int .u64 (s2 : Int)) (.int .u64 (s3 : Int)) (.slice none 0 0) (.int .i64 0) (.bool false) (.int .i64 0) (.bool false) (.int .u64 (n4 : Int)))
          have HALL := Lib.hid D8.all
          have HLP := Lib.hid D8.lp
          clear D8
          go_wp2
          refine bodyPost_ret (res2 (p := 2) (u := 3) rfl _ rfl HZ.out.1) rfl ?_
          refine ⟨none, 0, 0, by rw [HYE.out.1, HYE.out.2]; rfl, ?_, HALL.out.trans (HZ.out.2.below HALL.out.size fun k hk => by rw [hk]; exact HLP.out), own_new HOWN8.out (by have := HBB.out; have := HPE.out; omega)⟩
          rw [HYE.out.1]
          exact own_cat (m := ⟨(K : Nat), s1, s2, s3, [], 0, false, 0, false, n4⟩) (own_keep HZ.out.2 HOWN8.out fun g hg => by have := (HOWN8.out.lt g hg).1; have := HBB.out; omega) HFEW.out HFIN.out
        · have HNO : Hid (dec s = zeroC ∧ decZ s = 2) := dec_no (by rw [HY.out]; simpa using hd)
          obtain ⟨X, hXe⟩ : ∃ X, str (cmB ⟨(K : Nat), s1, s2, s3, [], 0, false, 0, false, n4⟩) = X := ⟨_, rfl⟩
          rw [hXe] at HENC
          unfold cmV Enc at HENC
          simp only at HENC
          clear hXe
          go_wp2_with fail
          with_reducible refine HENC.out.mono ?_
          rintro e w8 ⟨rfl, hb8⟩
          have D8 := D.below hb8
          have hflag8 := (hb8.cell (p := ⟨q, 1, none⟩) D.rd.lt).trans hflag
          have hleft8 := (hb8.cell (p := ⟨q, 0, none⟩) D.rd.lt).trans hleft
          clear D y0 y1 y2 y3 y4 y5 y6 y7 y8 y9 hGl hb8 HENC hflag hleft
          obtain ⟨p0, p1, p2, p3, p4, p5, p6, p7, p8, p9⟩ := D8.px.all
          have pf := D8.px.free
          have hPl := D8.px.lt
          have hql := D8.rd.lt
          have HZ := Lib.hid (D8.px.set (.int .i64 0) (.int .u64 0) (.int .u64 0) (.int .u64 0) (.slice none 0 0) (.int .i64 0) (.bool false) (.int .i64 0) (.bool false) (.int .u64 0))
          have HALL := Lib.hid D8.all
          have HLP := Lib.hid D8.lp
          clear D8
          obtain ⟨he1, he2⟩ := hemp
          cases bd with
          | true =>
            go_wp2
            refine bodyPost_ret (res2 (p := 2) (u := 3) rfl _ rfl HZ.out.1) rfl ?_
            exact ⟨none, 0, 0, by rw [HNO.out.1, HNO.out.2]; rfl, by rw [HNO.out.1]; exact cat_zero _, HALL.out.trans (HZ.out.2.below HALL.out.size fun k hk => by rw [hk]; exact HLP.out), new_nil _⟩
          | false =>
            have hsz : sz ≠ 0 := by simpa using hd
            simp only [hsz, decide_false, Bool.not_false] at he1 he2
            go_wp2
            refine bodyPost_ret (res2 (p := 2) (u := 3) rfl _ rfl HZ.out.1) rfl ?_
            exact ⟨none, 0, 0, by rw [HNO.out.1, HNO.out.2]; rfl, by rw [HNO.out.1]; exact cat_zero _, HALL.out.trans (HZ.out.2.below HALL.out.size fun k hk => by rw [hk]; exact HLP.out), new_nil _⟩
    · have k4 : ((K : Int) == 4) = true := by simp only [beq_iff_eq]; omega
      obtain ⟨q1, q2, q3, q4, oa, oc, ob, od, hO⟩ := namedo r5 z5
      have HM := Lib.hid (HN.out.outc hk4 hO)
      have O1 := hO.h1
      have O2 := hO.h2
      have O3 := hO.h3
      have O4 := hO.h4
      have U1 := hO.g1
      have U3 := hO.g3
      have t1 := hO.z1
      have t2 := hO.z2
      have t3 := hO.z3
      obtain ⟨xb, hxb⟩ : ∃ x, upV q1.s 1 = x := ⟨_, rfl⟩
      obtain ⟨xd, hxd⟩ : ∃ x, upV q3.s 1 = x := ⟨_, rfl⟩
      have hxb1 := truth_eq q1.s (Lib.hid hxb) hO.g2
      have hxd1 := truth_eq q3.s (Lib.hid hxd) hO.g4
      have U2 := Lib.hid hxb
      have U4 := Lib.hid hxd
      clear hO hk2 hk4 hxb hxd
      obtain ⟨y0, y1, y2, y3, y4, y5, y6, y7, y8, y9⟩ := D5.gx.all
      have hGl := D5.gx.lt
      go_wp2_with fail
      with_reducible refine (dm_up 63 D5 z5 (by decide) U1 O1).mono ?_
      rintro e wA ⟨rfl, DA⟩
      clear D5 y0 y1 y2 y3 y4 y5 y6 y7 y8 y9 hGl
      obtain ⟨y0, y1, y2, y3, y4, y5, y6, y7, y8, y9⟩ := DA.gx.all
      have gf := DA.gx.free
      have hGl := DA.gx.lt
      have DA1 := DA.set5 (.int .i64 (oa : Int))
      obtain ⟨wA1, hwA1⟩ : ∃ x, wA.setCell ⟨G, 5, none⟩ (.int .i64 (oa : Int)) = x := ⟨_, rfl⟩
      rw [hwA1] at DA1
      have HQwA1 := Lib.hid hwA1
      clear hwA1 DA
      go_upto_region 11 with fail
      rw [HQwA1.out]
      clear y0 y1 y2 y3 y4 y5 y6 y7 y8 y9 hGl gf
      go_wp2_with fail
      with_reducible refine (dm_up 1 DA1 t1 (by decide) U2 O2).mono ?_
      rintro e wB ⟨rfl, DB⟩
      clear DA1
      obtain ⟨y0, y1, y2, y3, y4, y5, y6, y7, y8, y9⟩ := DB.gx.all
      have gf := DB.gx.free
      have hGl := DB.gx.lt
      have DB1 := DB.set6 (.bool ob)
      obtain ⟨wB1, hwB1⟩ : ∃ x, wB.setCell ⟨G, 6, none⟩ (.bool ob) = x := ⟨_, rfl⟩
      rw [hwB1] at DB1
      have HQwB1 := Lib.hid hwB1
      clear hwB1 DB
      go_upto_region 12 with fail
      rw [HQwB1.out]
      clear y0 y1 y2 y3 y4 y5 y6 y7 y8 y9 hGl gf
      go_wp2_with fail
      with_reducible refine (dm_up 8 DB1 t2 (by decide) U3 O3).mono ?_
      rintro e wE ⟨rfl, DE1⟩
      clear DB1
      obtain ⟨y0, y1, y2, y3, y4, y5, y6, y7, y8, y9⟩ := DE1.gx.all
      have gf := DE1.gx.free
      have hGl := DE1.gx.lt
      have DF := DE1.set7 (.int .i64 (oc : Int))
      obtain ⟨wF, hwF⟩ : ∃ x, wE.setCell ⟨G, 7, none⟩ (.int .i64 (oc : Int)) = x := ⟨_, rfl⟩
      rw [hwF] at DF
      have HQwF := Lib.hid hwF
      clear hwF DE1
      go_upto_region 13 with fail
      rw [HQwF.out]
      clear y0 y1 y2 y3 y4 y5 y6 y7 y8 y9 hGl gf
      go_wp2_with fail
      with_reducible refine (dm_up 1 DF t3 (by decide) U4 O4).mono ?_
      rintro e wH ⟨rfl, DH⟩
      clear DF
      obtain ⟨y0, y1, y2, y3, y4, y5, y6, y7, y8, y9⟩ := DH.gx.all
      have gf := DH.gx.free
      have hGl := DH.gx.lt
      have D := DH.set8 (.bool od)
      obtain ⟨w6, hw6⟩ : ∃ x, wH.setCell ⟨G, 8, none⟩ (.bool od) = x := ⟨_, rfl⟩
      rw [hw6] at D
      have HQw6 := Lib.hid hw6
      clear hw6 DH
      go_upto_region 14 with fail
      rw [HQw6.out]
      clear y0 y1 y2 y3 y4 y5 y6 y7 y8 y9 hGl gf
      have HOWN := Lib.hid (World.ownsRow_nil w6 w6.heap.size 67 3)
      have HBB : Hid (P < w6.heap.size ∧ q < w6.heap.size ∧ G < w6.heap.size) := ⟨D.px.lt, D.rd.lt, D.gx.lt⟩
      have HFEW : Hid (([] : List Sp).length ≤ 64 ∧ ∀ e ∈ ([] : List Sp), e.nm.size ≤ 16) := ⟨by simp, by simp⟩
      have HFIN : Hid (Fin ⟨(K : Nat), s1, s2, s3, [], (oa : Nat), ob, (oc : Nat), od, n4⟩) := HFI.out ⟨_, _, _, _, _, _, _, _, _, _⟩ rfl rfl rfl rfl
      have hyes := yes_is s HM.out
      have hdone : q4.done = (decide (q4.s.size = 0) && !q4.bad) := rfl
      obtain ⟨bd, hbd⟩ : ∃ b, q4.bad = b := ⟨_, rfl⟩
      obtain ⟨sz, hsz⟩ : ∃ b, q4.s.size = b := ⟨_, rfl⟩
      obtain ⟨mb, hmb⟩ : ∃ b, mayB ⟨(K : Nat), s1, s2, s3, [], (oa : Nat), ob, (oc : Nat), od, n4⟩ = b := ⟨_, rfl⟩
      rw [hsz, hbd] at hdone
      rw [hdone, hmb] at hyes
      have HMB := Lib.hid hmb
      have HY := Lib.hid hyes
      have hcat := own_cat (m := ⟨(K : Nat), s1, s2, s3, [], (oa : Nat), ob, (oc : Nat), od, n4⟩) HOWN.out HFEW.out HFIN.out
      have HENC := Lib.hid (renc_any 0 hcat)
      obtain ⟨y0, y1, y2, y3, y4, y5, y6, y7, y8, y9⟩ := D.gx.all
      have hGl := D.gx.lt
      obtain ⟨S, hS⟩ : ∃ S, q4.s = S := ⟨_, rfl⟩
      have hflag := D.rd.at_.flag
      have hleft := D.rd.at_.left
      have hemp := emp_eq q4.s sz hsz
      rw [hbd] at hflag
      rw [hS] at hleft hemp
      clear hyes hdone hbd hsz hmb hcat hS
      cases mb with
      | false =>
        have hz : encZ ⟨(K : Nat), s1, s2, s3, [], (oa : Nat), ob, (oc : Nat), od, n4⟩ = 44 ∨ encZ ⟨(K : Nat), s1, s2, s3, [], (oa : Nat), ob, (oc : Nat), od, n4⟩ = 1 := (encZ_not HMB.out).elim (fun h => .inl h.1) (fun h => .inr h.1)
        have HNO : Hid (dec s = zeroC ∧ decZ s = 2) := dec_no (by rw [HY.out, Bool.and_false])
        rw [encS_not HMB.out] at HENC
        obtain ⟨z, hze⟩ : ∃ z, encZ ⟨(K : Nat), s1, s2, s3, [], (oa : Nat), ob, (oc : Nat), od, n4⟩ = z := ⟨_, rfl⟩
        rw [hze] at HENC hz
        have hz0 : (z != 0) = true := by rcases hz with rfl | rfl <;> rfl
        have hz1 : (z == 0) = false := by rcases hz with rfl | rfl <;> rfl
        unfold cmV Enc at HENC
        simp only at HENC
        clear hze hz
        go_wp2_with fail
        with_reducible refine HENC.out.mono ?_
        rintro e w8 ⟨rfl, hb8⟩
        have D8 := D.below hb8
        have hflag8 := (hb8.cell (p := ⟨q, 1, none⟩) D.rd.lt).trans hflag
        have hleft8 := (hb8.cell (p := ⟨q, 0, none⟩) D.rd.lt).trans hleft
        clear D y0 y1 y2 y3 y4 y5 y6 y7 y8 y9 hGl hb8 HENC hflag hleft
        obtain ⟨p0, p1, p2, p3, p4, p5, p6, p7, p8, p9⟩ := D8.px.all
        have pf := D8.px.free
        have hPl := D8.px.lt
        have hql := D8.rd.lt
        have HZ := Lib.hid (D8.px.set (.int .i64 0) (.int .u64 0) (.int .u64 0) (.int .u64 0) (.slice none 0 0) (.int .i64 0) (.bool false) (.int .i64 0) (.bool false) (.int .u64 0))
        have HALL := Lib.hid D8.all
        have HLP := Lib.hid D8.lp
        clear D8
        obtain ⟨he1, he2⟩ := hemp
        cases bd with
        | true =>
          go_wp2
          refine bodyPost_ret (res2 (p := 2) (u := 3) rfl _ rfl HZ.out.1) rfl ?_
          exact ⟨none, 0, 0, by rw [HNO.out.1, HNO.out.2]; rfl, by rw [HNO.out.1]; exact cat_zero _, HALL.out.trans (HZ.out.2.below HALL.out.size fun k hk => by rw [hk]; exact HLP.out), new_nil _⟩
        | false =>
          by_cases hsz : sz = 0
          all_goals
            simp only [hsz, decide_true, decide_false, Bool.not_true, Bool.not_false] at he1 he2
            go_wp2
            refine bodyPost_ret (res2 (p := 2) (u := 3) rfl _ rfl HZ.out.1) rfl ?_
            exact ⟨none, 0, 0, by rw [HNO.out.1, HNO.out.2]; rfl, by rw [HNO.out.1]; exact cat_zero _, HALL.out.trans (HZ.out.2.below HALL.out.size fun k hk => by rw [hk]; exact HLP.out), new_nil _⟩
      | true =>
        rw [encZ_may HMB.out, encS_may HMB.out] at HENC
        by_cases hd : (decide (sz = 0) && !bd) = true
        · have hye : yes s = true := by rw [HY.out, hd]; rfl
          have HYE : Hid (dec s = ⟨(K : Nat), s1, s2, s3, [], (oa : Nat), ob, (oc : Nat), od, n4⟩ ∧ decZ s = 0) := by
            have h := dec_yes (s := s) hye
            rw [HM.out.1] at h
            exact h
          have hbk := (yes_back hye).2.1
          rw [HYE.out.1] at hbk
          rw [← hbk] at HENC
          simp only [Bool.and_eq_true, decide_eq_true_eq, Bool.not_eq_true'] at hd
          obtain ⟨hsz, rfl⟩ := hd
          obtain ⟨he1, he2⟩ := hemp
          simp only [hsz, decide_true, Bool.not_true] at he1 he2
          unfold cmV Enc at HENC
          simp only at HENC
          clear hbk hye
          go_wp2_with fail
          with_reducible refine HENC.out.mono ?_
          rintro e w8 ⟨rfl, hb8⟩
          have D8 := D.below hb8
          have HOWN8 := Lib.hid (own_keep (S := fun _ => False) (Only.of_below hb8) HOWN.out (fun _ _ h => h))
          have hflag8 := (hb8.cell (p := ⟨q, 1, none⟩) D.rd.lt).trans hflag
          have hleft8 := (hb8.cell (p := ⟨q, 0, none⟩) D.rd.lt).trans hleft
          clear D y0 y1 y2 y3 y4 y5 y6 y7 y8 y9 hGl hb8 HENC hflag hleft
          obtain ⟨y0, y1, y2, y3, y4, y5, y6, y7, y8, y9⟩ := D8.gx.all
          obtain ⟨p0, p1, p2, p3, p4, p5, p6, p7, p8, p9⟩ := D8.px.all
          have pf := D8.px.free
          have hPl := D8.px.lt
          have hGl := D8.gx.lt
          have hql := D8.rd.lt
          have HZ := Lib.hid (D8.px.set (.int .i64 (K : Int)) (.int .u64 (s1 : Int)) (.int .u64 (s2 : Int)) (.int .u64 (s3 : Int)) (.slice none 0 0) (.int .i64 (oa : Int)) (.bool ob) (.int .i64 (oc : Int)) (.bool od) (.int .u64 (n4 : Int)))
          have HALL := Lib.hid D8.all
          have HLP := Lib.hid D8.lp
          clear D8
          go_wp2
          refine bodyPost_ret (res2 (p := 2) (u := 3) rfl _ rfl HZ.out.1) rfl ?_
          refine ⟨none, 0, 0, by rw [HYE.out.1, HYE.out.2]; rfl, ?_, HALL.out.trans (HZ.out.2.below HALL.out.size fun k hk => by rw [hk]; exact HLP.out), own_new HOWN8.out (by have := HBB.out; have := HPE.out; omega)⟩
          rw [HYE.out.1]
          exact own_cat (m := ⟨(K : Nat), s1, s2, s3, [], (oa : Nat), ob, (oc : Nat), od, n4⟩) (own_keep HZ.out.2 HOWN8.out fun g hg => by have := (HOWN8.out.lt g hg).1; have := HBB.out; omega) HFEW.out HFIN.out
        · have HNO : Hid (dec s = zeroC ∧ decZ s = 2) := dec_no (by rw [HY.out]; simpa using hd)
          obtain ⟨X, hXe⟩ : ∃ X, str (cmB ⟨(K : Nat), s1, s2, s3, [], (oa : Nat), ob, (oc : Nat), od, n4⟩) = X := ⟨_, rfl⟩
          rw [hXe] at HENC
          unfold cmV Enc at HENC
          simp only at HENC
          clear hXe
          go_wp2_with fail
          with_reducible refine HENC.out.mono ?_
          rintro e w8 ⟨rfl, hb8⟩
          have D8 := D.below hb8
          have hflag8 := (hb8.cell (p := ⟨q, 1, none⟩) D.rd.lt).trans hflag
          have hleft8 := (hb8.cell (p := ⟨q, 0, none⟩) D.rd.lt).trans hleft
          clear D y0 y1 y2 y3 y4 y5 y6 y7 y8 y9 hGl hb8 HENC hflag hleft
          obtain ⟨p0, p1, p2, p3, p4, p5, p6, p7, p8, p9⟩ := D8.px.all
          have pf := D8.px.free
          have hPl := D8.px.lt
          have hql := D8.rd.lt
          have HZ := Lib.hid (D8.px.set (.int .i64 0) (.int .u64 0) (.int .u64 0) (.int .u64 0) (.slice none 0 0) (.int .i64 0) (.bool false) (.int .i64 0) (.bool false) (.int .u64 0))
          have HALL := Lib.hid D8.all
          have HLP := Lib.hid D8.lp
          clear D8
          obtain ⟨he1, he2⟩ := hemp
          cases bd with
          | true =>
            go_wp2
            refine bodyPost_ret (res2 (p := 2) (u := 3) rfl _ rfl HZ.out.1) rfl ?_
            exact ⟨none, 0, 0, by rw [HNO.out.1, HNO.out.2]; rfl, by rw [HNO.out.1]; exact cat_zero _, HALL.out.trans (HZ.out.2.below HALL.out.size fun k hk => by rw [hk]; exact HLP.out), new_nil _⟩
          | false =>
            have hsz : sz ≠ 0 := by simpa using hd
            simp only [hsz, decide_false, Bool.not_false] at he1 he2
            go_wp2
            refine bodyPost_ret (res2 (p := 2) (u := 3) rfl _ rfl HZ.out.1) rfl ?_
            exact ⟨none, 0, 0, by rw [HNO.out.1, HNO.out.2]; rfl, by rw [HNO.out.1]; exact cat_zero _, HALL.out.trans (HZ.out.2.below HALL.out.size fun k hk => by rw [hk]; exact HLP.out), new_nil _⟩
  · have k2 : ((K : Int) == 2) = true := by simp only [beq_iff_eq]; omega
    have k4 : ((K : Int) == 4) = false := by simp only [beq_eq_false_iff_ne, ne_eq]; omega
    obtain ⟨l, hl⟩ : ∃ l, rPlan r5 = l := ⟨_, rfl⟩
    obtain ⟨rE, hrE⟩ : ∃ r, rEnd r5 = r := ⟨_, rfl⟩
    have hfew := plan_in r5
    rw [hl] at hfew
    have HL := Lib.hid hl
    have HRE := Lib.hid hrE
    have HM := Lib.hid (HN.out.subm hk2 HL HRE)
    have HFEW : Hid (l.length ≤ 64 ∧ ∀ e ∈ l, e.nm.size ≤ 16) := hfew
    have HFIN : Hid (Fin ⟨(K : Nat), s1, s2, s3, l, 0, false, 0, false, n4⟩) := HFI.out ⟨_, _, _, _, _, _, _, _, _, _⟩ rfl rfl rfl rfl
    clear hl hrE hfew hk2
    obtain ⟨y0, y1, y2, y3, y4, y5, y6, y7, y8, y9⟩ := D5.gx.all
    have hGl := D5.gx.lt
    have HBB : Hid (P < w5.heap.size ∧ q < w5.heap.size ∧ G < w5.heap.size) := ⟨D5.px.lt, D5.rd.lt, D5.gx.lt⟩
    go_wp2_with fail
    with_reducible refine (PlnWalkD.rread_any D5.rd z5 HL HRE).mono ?_
    intro e wA hk
    obtain ⟨v, rfl, hownA, DA⟩ := D5.plan hk
    obtain ⟨A, c, rfl, _, _, _⟩ := own_form hownA
    obtain ⟨n, hn⟩ : ∃ n, l.length = n := ⟨_, rfl⟩
    rw [hn] at hownA
    have HLN := Lib.hid hn
    clear hk D5 y0 y1 y2 y3 y4 y5 y6 y7 y8 y9 hGl
    obtain ⟨y0, y1, y2, y3, y4, y5, y6, y7, y8, y9⟩ := DA.gx.all
    have gf := DA.gx.free
    have hGl := DA.gx.lt
    have D := DA.set4 (.slice A n c)
    have hset := (DA.gx.set4 (.slice A n c)).2
    have hown6 := own_keep hset hownA fun g hg => by have := (hownA.lt g hg).1; have := HBB.out; omega
    obtain ⟨w6, hw6⟩ : ∃ x, wA.setCell ⟨G, 4, none⟩ (.slice A n c) = x := ⟨_, rfl⟩
    rw [hw6] at D hown6
    have HW6 := Lib.hid hw6
    have HOWN : Hid (w6.ownsRow w5.heap.size 67 3 (.slice A n c) l.length (scells l)) := by
      have : w6.ownsRow w5.heap.size 67 3 (.slice A n c) l.length (scells l) := by rw [HLN.out]; exact hown6
      exact this
    clear hw6 DA hownA hown6 hset
    simp only [hn]
    clear hn
    go_upto_region 9 with fail
    rw [HW6.out]
    clear y0 y1 y2 y3 y4 y5 y6 y7 y8 y9 hGl gf
    have hyes := yes_is s HM.out
    have hdone : rE.done = (decide (rE.s.size = 0) && !rE.bad) := rfl
    obtain ⟨bd, hbd⟩ : ∃ b, rE.bad = b := ⟨_, rfl⟩
    obtain ⟨sz, hsz⟩ : ∃ b, rE.s.size = b := ⟨_, rfl⟩
    obtain ⟨mb, hmb⟩ : ∃ b, mayB ⟨(K : Nat), s1, s2, s3, l, 0, false, 0, false, n4⟩ = b := ⟨_, rfl⟩
    rw [hsz, hbd] at hdone
    rw [hdone, hmb] at hyes
    have HMB := Lib.hid hmb
    have HY := Lib.hid hyes
    have hcat := own_cat (m := ⟨(K : Nat), s1, s2, s3, l, 0, false, 0, false, n4⟩) HOWN.out HFEW.out HFIN.out
    have HENC := Lib.hid (renc_any c hcat)
    obtain ⟨y0, y1, y2, y3, y4, y5, y6, y7, y8, y9⟩ := D.gx.all
    have hGl := D.gx.lt
    obtain ⟨S, hS⟩ : ∃ S, rE.s = S := ⟨_, rfl⟩
    have hflag := D.rd.at_.flag
    have hleft := D.rd.at_.left
    have hemp := emp_eq rE.s sz hsz
    rw [hbd] at hflag
    rw [hS] at hleft hemp
    clear hyes hdone hbd hsz hmb hcat hS
    cases mb with
    | false =>
      have hz : encZ ⟨(K : Nat), s1, s2, s3, l, 0, false, 0, false, n4⟩ = 44 ∨ encZ ⟨(K : Nat), s1, s2, s3, l, 0, false, 0, false, n4⟩ = 1 := (encZ_not HMB.out).elim (fun h => .inl h.1) (fun h => .inr h.1)
      have HNO : Hid (dec s = zeroC ∧ decZ s = 2) := dec_no (by rw [HY.out, Bool.and_false])
      rw [encS_not HMB.out] at HENC
      obtain ⟨z, hze⟩ : ∃ z, encZ ⟨(K : Nat), s1, s2, s3, l, 0, false, 0, false, n4⟩ = z := ⟨_, rfl⟩
      rw [hze] at HENC hz
      have hz0 : (z != 0) = true := by rcases hz with rfl | rfl <;> rfl
      have hz1 : (z == 0) = false := by rcases hz with rfl | rfl <;> rfl
      unfold cmV Enc at HENC
      simp only at HENC
      clear hze hz
      go_wp2_with fail
      with_reducible refine HENC.out.mono ?_
      rintro e w8 ⟨rfl, hb8⟩
      have D8 := D.below hb8
      have hflag8 := (hb8.cell (p := ⟨q, 1, none⟩) D.rd.lt).trans hflag
      have hleft8 := (hb8.cell (p := ⟨q, 0, none⟩) D.rd.lt).trans hleft
      clear D y0 y1 y2 y3 y4 y5 y6 y7 y8 y9 hGl hb8 HENC hflag hleft
      obtain ⟨p0, p1, p2, p3, p4, p5, p6, p7, p8, p9⟩ := D8.px.all
      have pf := D8.px.free
      have hPl := D8.px.lt
      have hql := D8.rd.lt
      have HZ := Lib.hid (D8.px.set (.int .i64 0) (.int .u64 0) (.int .u64 0) (.int .u64 0) (.slice none 0 0) (.int .i64 0) (.bool false) (.int .i64 0) (.bool false) (.int .u64 0))
      have HALL := Lib.hid D8.all
      have HLP := Lib.hid D8.lp
      clear D8
      obtain ⟨he1, he2⟩ := hemp
      cases bd with
      | true =>
        go_wp2
        refine bodyPost_ret (res2 (p := 2) (u := 3) rfl _ rfl HZ.out.1) rfl ?_
        exact ⟨none, 0, 0, by rw [HNO.out.1, HNO.out.2]; rfl, by rw [HNO.out.1]; exact cat_zero _, HALL.out.trans (HZ.out.2.below HALL.out.size fun k hk => by rw [hk]; exact HLP.out), new_nil _⟩
      | false =>
        by_cases hsz : sz = 0
        all_goals
          simp only [hsz, decide_true, decide_false, Bool.not_true, Bool.not_false] at he1 he2
          go_wp2
          refine bodyPost_ret (res2 (p := 2) (u := 3) rfl _ rfl HZ.out.1) rfl ?_
          exact ⟨none, 0, 0, by rw [HNO.out.1, HNO.out.2]; rfl, by rw [HNO.out.1]; exact cat_zero _, HALL.out.trans (HZ.out.2.below HALL.out.size fun k hk => by rw [hk]; exact HLP.out), new_nil _⟩
    | true =>
      rw [encZ_may HMB.out, encS_may HMB.out] at HENC
      by_cases hd : (decide (sz = 0) && !bd) = true
      · have hye : yes s = true := by rw [HY.out, hd]; rfl
        have HYE : Hid (dec s = ⟨(K : Nat), s1, s2, s3, l, 0, false, 0, false, n4⟩ ∧ decZ s = 0) := by
          have h := dec_yes (s := s) hye
          rw [HM.out.1] at h
          exact h
        have hbk := (yes_back hye).2.1
        rw [HYE.out.1] at hbk
        rw [← hbk] at HENC
        simp only [Bool.and_eq_true, decide_eq_true_eq, Bool.not_eq_true'] at hd
        obtain ⟨hsz, rfl⟩ := hd
        obtain ⟨he1, he2⟩ := hemp
        simp only [hsz, decide_true, Bool.not_true] at he1 he2
        unfold cmV Enc at HENC
        simp only at HENC
        clear hbk hye
        go_wp2_with fail
        with_reducible refine HENC.out.mono ?_
        rintro e w8 ⟨rfl, hb8⟩
        have D8 := D.below hb8
        have HOWN8 := Lib.hid (own_keep (S := fun _ => False) (Only.of_below hb8) HOWN.out (fun _ _ h => h))
        have hflag8 := (hb8.cell (p := ⟨q, 1, none⟩) D.rd.lt).trans hflag
        have hleft8 := (hb8.cell (p := ⟨q, 0, none⟩) D.rd.lt).trans hleft
        clear D y0 y1 y2 y3 y4 y5 y6 y7 y8 y9 hGl hb8 HENC hflag hleft
        obtain ⟨y0, y1, y2, y3, y4, y5, y6, y7, y8, y9⟩ := D8.gx.all
        obtain ⟨p0, p1, p2, p3, p4, p5, p6, p7, p8, p9⟩ := D8.px.all
        have pf := D8.px.free
        have hPl := D8.px.lt
        have hGl := D8.gx.lt
        have hql := D8.rd.lt
        have HZ := Lib.hid (D8.px.set (.int .i64 (K : Int)) (.int .u64 (s1 : Int)) (.int .u64 (s2 : Int)) (.int .u64 (s3 : Int)) (.slice A n c) (.int .i64 0) (.bool false) (.int .i64 0) (.bool false) (.int .u64 (n4 : Int)))
        have HALL := Lib.hid D8.all
        have HLP := Lib.hid D8.lp
        clear D8
        go_wp2
        refine bodyPost_ret (res2 (p := 2) (u := 3) rfl _ rfl HZ.out.1) rfl ?_
        refine ⟨A, n, c, by rw [HYE.out.1, HYE.out.2]; rfl, ?_, HALL.out.trans (HZ.out.2.below HALL.out.size fun k hk => by rw [hk]; exact HLP.out), own_new HOWN8.out (by have := HBB.out; have := HPE.out; omega)⟩
        rw [HYE.out.1]
        exact own_cat (m := ⟨(K : Nat), s1, s2, s3, l, 0, false, 0, false, n4⟩) (own_keep HZ.out.2 HOWN8.out fun g hg => by have := (HOWN8.out.lt g hg).1; have := HBB.out; omega) HFEW.out HFIN.out
      · have HNO : Hid (dec s = zeroC ∧ decZ s = 2) := dec_no (by rw [HY.out]; simpa using hd)
        obtain ⟨X, hXe⟩ : ∃ X, str (cmB ⟨(K : Nat), s1, s2, s3, l, 0, false, 0, false, n4⟩) = X := ⟨_, rfl⟩
        rw [hXe] at HENC
        unfold cmV Enc at HENC
        simp only at HENC
        clear hXe
        go_wp2_with fail
        with_reducible refine HENC.out.mono ?_
        rintro e w8 ⟨rfl, hb8⟩
        have D8 := D.below hb8
        have hflag8 := (hb8.cell (p := ⟨q, 1, none⟩) D.rd.lt).trans hflag
        have hleft8 := (hb8.cell (p := ⟨q, 0, none⟩) D.rd.lt).trans hleft
        clear D y0 y1 y2 y3 y4 y5 y6 y7 y8 y9 hGl hb8 HENC hflag hleft
        obtain ⟨p0, p1, p2, p3, p4, p5, p6, p7, p8, p9⟩ := D8.px.all
        have pf := D8.px.free
        have hPl := D8.px.lt
        have hql := D8.rd.lt
        have HZ := Lib.hid (D8.px.set (.int .i64 0) (.int .u64 0) (.int .u64 0) (.int .u64 0) (.slice none 0 0) (.int .i64 0) (.bool false) (.int .i64 0) (.bool false) (.int .u64 0))
        have HALL := Lib.hid D8.all
        have HLP := Lib.hid D8.lp
        clear D8
        obtain ⟨he1, he2⟩ := hemp
        cases bd with
        | true =>
          go_wp2
          refine bodyPost_ret (res2 (p := 2) (u := 3) rfl _ rfl HZ.out.1) rfl ?_
          exact ⟨none, 0, 0, by rw [HNO.out.1, HNO.out.2]; rfl, by rw [HNO.out.1]; exact cat_zero _, HALL.out.trans (HZ.out.2.below HALL.out.size fun k hk => by rw [hk]; exact HLP.out), new_nil _⟩
        | false =>
          have hsz : sz ≠ 0 := by simpa using hd
          simp only [hsz, decide_false, Bool.not_false] at he1 he2
          go_wp2
          refine bodyPost_ret (res2 (p := 2) (u := 3) rfl _ rfl HZ.out.1) rfl ?_
          exact ⟨none, 0, 0, by rw [HNO.out.1, HNO.out.2]; rfl, by rw [HNO.out.1]; exact cat_zero _, HALL.out.trans (HZ.out.2.below HALL.out.size fun k hk => by rw [hk]; exact HLP.out), new_nil _⟩
end Go.Proofs.YthaepkpmpnofgaaGreat.CmnWalkE
