/- The walk of the statement that call by call a net answers what the document says. -/
import Derived.Test.YtfcdaelbbcfgjaaTwoB
import Derived.Test.YtfcdaelbbcfgjaaLight
import Derived.Deep.RegionHeld3
import Derived.Lib.MinMax
import Derived.BigRegion
import Derived.BigQuiet
import Derived.Deep.CutRange
import Derived.Deep.CutBlock
import Derived.WalkSmall
set_option linter.unusedVariables false
namespace Go.Proofs.Ytfcdaelbbcfgjaa.LawE
open Go.RowKit Go.Proofs.Ytfcdaelbbcfgjaa.Kit Go.Proofs.Ytfcdaelbbcfgjaa.Blocks Go.Proofs.Ytfcdaelbbcfgjaa.Ltr Go.Proofs.Ytfcdaelbbcfgjaa.NAt Go.Proofs.Ytfcdaelbbcfgjaa.WalkA Go.Proofs.Ytfcdaelbbcfgjaa.WalkG Go.Proofs.Ytfcdaelbbcfgjaa.Sol Go.Proofs.Ytfcdaelbbcfgjaa.Begun Go.Proofs.Ytfcdaelbbcfgjaa.Opens Go.Proofs.Ytfcdaelbbcfgjaa.LawB Go.Proofs.Ytfcdaelbbcfgjaa.Same Go.Proofs.Ytfcdaelbbcfgjaa.Two Go.Proofs.Ytfcdaelbbcfgjaa.TwoB Go.Proofs.Ytfcdaelbbcfgjaa.Light

set_option maxRecDepth 100000 in
set_option maxHeartbeats 64000000 in
theorem runs_walk (A : Option Addr) (n c : Nat) (L : List Cal) (w : World) (h63 : n ≤ 9223372036854775807) (hh : Holds w A n L) :
    Calls Try.prog 3 #[.slice A n c] w fun e w' => e = .returned (.bool true) ∧ Below w.heap.size w w' := by
  have HH := Lib.hid hh
  clear hh
  go_enter Try.func3, Try.ntmps3
  go_wp2_with fail
  with_reducible refine (begun_true _).mono ?_
  rintro e w1 ⟨rfl, hb1⟩
  go_wp2_with fail
  with_reducible refine (light_any A n c L w w1 HH.out h63 hb1).mono ?_
  rintro e w1b ⟨⟨lb, rfl⟩, hb1b⟩
  have hbl := hb1.trans (hb1b.mono hb1.size)
  clear hb1 hb1b
  cases lb with
  | false =>
    go_wp2
    go_ret
    exact ⟨rfl, hbl⟩
  | true =>
    go_wp2_with fail
    with_reducible refine (new_any w.heap.size w1b hbl.size).mono ?_
    rintro e w2 ⟨p, rfl, hn2, hb2, _⟩
    have hpr := pr_new hn2 (hbl.trans (hb2.mono hbl.size))
    obtain ⟨q, hq⟩ : ∃ q, w2.heap.size = q := ⟨_, rfl⟩
    rw [hq] at hpr
    have HPr := Lib.hid hpr
    have HQ := Lib.hid hq
    clear hpr hq hn2 hb2 hbl
    go_wp2
    rw [HQ.out]
    go_loopw [26] (fun i wr => ∃ (k : Nat) (D : List Sd) (l : Nat), k ≤ n ∧ k ≤ 400 ∧ i = .int .i64 (k : Int) ∧ l ≤ k ∧ D.length ≤ 256 ∧ Pr w p q D l D l wr) (fun i _ => n - (intOf i).toNat)
    case atStart => exact ⟨0, [], 0, by omega, by omega, rfl, by omega, by simp, HPr.out⟩
    case round =>
      obtain ⟨k, D, l, hk, hk4, rfl, hlk, hDle, hpr⟩ := hrel
      have hbw := hpr.bel
      by_cases hlt : k < n ∧ k ≠ 400
      · have hkI : (k : Int) < (n : Int) := by omega
        have hk0 : (0 : Int) ≤ (k : Int) := by omega
        have hk400 : ((k : Int) == 400) = false := by simp; omega
        have hk400' : ¬ (k : Int) = 400 := by omega
        obtain ⟨⟨kd, ii, ⟨⟨f0, f1, f2, f3, f4, f5, f6, f7, f9⟩, A2, m2, c2, es⟩⟩, b, o, rfl, hbl, htw, hcame⟩ := holds_at HH.out hbw hlt.1
        obtain ⟨t0, t1, d0, d1, d2, d3, d4, d5, d6, d7, d8, d9⟩ := twelve htw
        have hbl2 : b < wr.heap.size := Nat.lt_of_lt_of_le hbl hbw.size
        simp only at t0 t1 d0 d1 d2 d3 d4 d5 d6 d7 d8 d9 hcame
        obtain ⟨bx, hbx⟩ : ∃ bx, wr.heap.size = bx := ⟨_, rfl⟩
        have hQ := hpr.boxed (.cells #[.int .i64 kd, .int .i64 ii, .int .i64 f0, .int .i64 f1, .int .i64 f2, .int .u64 f3, .int .u64 f4, .int .u64 f5, .int .u64 f6, .bool f7, .slice A2 m2 c2, .string f9] 36)
        rw [hbx] at hQ
        have HS := Lib.hid hQ
        have HCm := Lib.hid hcame
        have HBx := Lib.hid hbx
        obtain ⟨dd, hdd⟩ : ∃ dd, Lt.said ⟨⟨f0, f1, f2, f3, f4, f5, f6, f7, f9⟩, A2, m2, c2, es⟩ = dd := ⟨_, rfl⟩
        have HDd := Lib.hid hdd
        have hl62 : l < 4611686018427387904 := by omega
        have hct := q_ten hQ
        have hc1 := hQ.cell 1
        simp only [List.getElem?_toArray, List.getElem?_cons_succ, List.getElem?_cons_zero] at hc1
        have hlbx := lt_at hQ.1
        clear hQ hpr htw hcame hbx hdd
        go_upto_block 2 with fail
        rw [HBx.out]
        go_cut [] from 33 to 152 (fun wx => ∃ (D1 : List Sd) (l1 : Nat), Pr w p q D1 l1 D1 l1 wx ∧ D1.length ≤ 256 ∧ l1 ≤ k + 1)
        case rest =>
          obtain ⟨D1, l1, hPt, hDl, hll⟩ := hcut
          obtain ⟨m5, hm5⟩ : ∃ m, D1.length = m := ⟨_, rfl⟩
          rw [hm5] at hDl
          have HM5 := Lib.hid hm5
          have hm5I : (m5 : Int) ≤ 256 := by omega
          have HPt := Lib.hid hPt
          have hmm5 : ((m5 : Int) != (m5 : Int)) = false := by simp
          have hlll5 : ((l1 : Int) != (l1 : Int)) = false := by simp
          clear hm5 hPt
          go_wp2_with fail
          with_reducible refine (p_count HPt.out HM5).mono ?_
          rintro e wd ⟨rfl, hpc⟩
          obtain ⟨A5, c5, hst⟩ := sta_of hpc HM5
          have e0 := hst.2.1
          have e1 := hst.2.2.1
          have eq5 := hst.2.2.2
          have HSt := Lib.hid hst
          clear hst hpc HPt
          by_cases h8 : (k : Int).tmod 8 = 0
          · have h8B : ((k : Int).tmod 8 == 0) = true := by rw [h8]; rfl
            clear h8
            go_wp2_with fail
            go_region_held3 (fun W => W.cell? ⟨q, 0, none⟩ = some (.slice A5 m5 c5) ∧ W.cell? ⟨q, 1, none⟩ = some (.int .i64 (l1 : Int)))
              (first
                | exact ⟨e0, e1⟩
                | exact ⟨hA.1.2.1, hA.1.2.2.1⟩
                | exact ⟨hD.2.1, hD.2.2.1⟩)
              (first
                | (go_at_call 21
                   with_reducible refine (s_all (by first | exact HSt.out | exact HSt.out.drew) hDl HM5).mono ?_
                   rintro e wA ⟨A6, c6, rfl, hA⟩)
                | (go_at_call 20
                   with_reducible refine (s_rall hA hDl).mono ?_
                   rintro e wD ⟨rfl, hD⟩))
            all_goals go_wp2
            all_goals
              exact ⟨⟨k + 1, D1, l1, by omega, by omega, by first | rfl | simp, by omega, by rw [HM5.out]; exact hDl, hD.1⟩, by simp [intOf]; omega⟩
          · have h8B : ((k : Int).tmod 8 == 0) = false := beq_false_of_ne h8
            have h8C : ((k : Int) % 8 == 0) = false := by rw [← Int.tmod_eq_emod_of_nonneg (by omega)]; exact h8B
            clear h8
            go_wp2_with fail
            go_quiet (fail)
            all_goals go_wp2
            all_goals
              exact ⟨⟨k + 1, D1, l1, by omega, by omega, by first | rfl | simp, by omega, by rw [HM5.out]; exact hDl, (HSt.out.next (below_drewN (Below.refl _ _) _)).1⟩, by simp [intOf]; omega⟩
        case first =>
          by_cases hk0' : kd = 0
          · subst hk0'
            obtain ⟨s, hs⟩ : ∃ s, decide (D.length < 256) = s := ⟨_, rfl⟩
            obtain ⟨D1, hD1⟩ : ∃ D1, sent D dd = D1 := ⟨_, rfl⟩
            obtain ⟨l1, hl1⟩ : ∃ l1, slost D l = l1 := ⟨_, rfl⟩
            have hle := sent_le (d := dd) hDle
            have hle2 := slost_le (D := D) (l := l)
            rw [hD1] at hle
            rw [hl1] at hle2
            have HSs := Lib.hid hs
            have HD1 := Lib.hid hD1
            have HL1 := Lib.hid hl1
            have hss : (s != s) = false := by simp
            have hps := fun (W : World) (h : Q2 w bx (.cells #[.int .i64 0, .int .i64 ii, .int .i64 f0, .int .i64 f1, .int .i64 f2, .int .u64 f3, .int .u64 f4, .int .u64 f5, .int .u64 f6, .bool f7, .slice A2 m2 c2, .string f9] 36) p q D l D l W) => p_send (x := ⟨⟨f0, f1, f2, f3, f4, f5, f6, f7, f9⟩, A2, m2, c2, es⟩) h hl62 HCm.out HDd.out HSs HD1 HL1
            have hms := fun (W : World) (h : Q2 w bx (.cells #[.int .i64 0, .int .i64 ii, .int .i64 f0, .int .i64 f1, .int .i64 f2, .int .u64 f3, .int .u64 f4, .int .u64 f5, .int .u64 f6, .bool f7, .slice A2 m2 c2, .string f9] 36) p q D1 l1 D l W) => m_sendC (x := ⟨⟨f0, f1, f2, f3, f4, f5, f6, f7, f9⟩, A2, m2, c2, es⟩) h hl62 HCm.out HDd.out HSs HD1 HL1
            unfold ltV at hps hms
            simp only at hps hms
            have HPS := Lib.hid hps
            have HMS := Lib.hid hms
            clear hs hD1 hl1 hps hms
            go_wp2_with fail
            go_region_held3 (fun W => W.cell? ⟨bx, 2, none⟩ = some (.int .i64 f0) ∧ W.cell? ⟨bx, 3, none⟩ = some (.int .i64 f1) ∧ W.cell? ⟨bx, 4, none⟩ = some (.int .i64 f2) ∧ W.cell? ⟨bx, 5, none⟩ = some (.int .u64 f3) ∧ W.cell? ⟨bx, 6, none⟩ = some (.int .u64 f4) ∧ W.cell? ⟨bx, 7, none⟩ = some (.int .u64 f5) ∧ W.cell? ⟨bx, 8, none⟩ = some (.int .u64 f6) ∧ W.cell? ⟨bx, 9, none⟩ = some (.bool f7) ∧ W.cell? ⟨bx, 10, none⟩ = some (.slice A2 m2 c2) ∧ W.cell? ⟨bx, 11, none⟩ = some (.string f9))
              (first
                | exact hct
                | exact q_ten hA
                | exact q_ten hD)
              (first
                | (go_at_call 11
                   with_reducible refine (HPS.out _ (by first | exact HS.out | exact HS.out.drew)).mono ?_
                   rintro e wA ⟨rfl, hA⟩)
                | (go_at_call 12
                   with_reducible refine (HMS.out _ hA).mono ?_
                   rintro e wD ⟨rfl, hD⟩))
            all_goals
              go_wp2_with fail
              go_meet
              case rel => exact ⟨D1, l1, hD.pr, hle, by omega⟩
          · have hk0B : (kd == 0) = false := by simpa using hk0'
            by_cases hk1 : kd = 1
            · subst hk1
              by_cases hDn : D = []
              · subst hDn
                have HT1 := Lib.hid (p_takeN HS.out ii)
                clear hct
                go_wp2_with fail
                with_reducible refine HT1.out.mono ?_
                rintro e w3 ⟨rfl, hq3⟩
                unfold ltV zeroL zeroH
                simp only
                have hr3 := hq3.reboxed (.cells #[.int .i64 0, .int .i64 0, .int .i64 0, .int .u64 0, .int .u64 0, .int .u64 0, .int .u64 0, .bool false, .slice none 0 0, .string ⟨#[]⟩] 34)
                have hc3 := hq3.q2.cell 1
                simp only [List.getElem?_toArray, List.getElem?_cons_succ, List.getElem?_cons_zero] at hc3
                have hbx3 := lt_at hq3.q2.1
                have HT2 := Lib.hid (m_take3N hr3 ii)
                clear hr3 hq3 HT1 hc1
                go_wp2_with fail
                with_reducible refine HT2.out.mono ?_
                rintro e w4 ⟨rfl, ⟨E4, hf4⟩, hq4⟩
                unfold ltV zeroL zeroH
                simp only
                obtain ⟨y0, y1, y2, y3, y4, y5, y6, y7, y8, y9, hly⟩ := ten_at hq4.1
                have hbb := (Below.refl w4.heap.size w4).alloc (Nat.le_refl _) (.cells #[.int .i64 0, .int .i64 0, .int .i64 0, .int .u64 0, .int .u64 0, .int .u64 0, .int .u64 0, .bool false, .slice none 0 0, .string ⟨#[]⟩] 34)
                have hsm := same_any (hf4.below hbb) (Fit.zero (w4.alloc (.cells #[.int .i64 0, .int .i64 0, .int .i64 0, .int .u64 0, .int .u64 0, .int .u64 0, .int .u64 0, .bool false, .slice none 0 0, .string ⟨#[]⟩] 34)) E4) rfl
                have hpr4 := hq4.pr.below hbb
                unfold ltV zeroL zeroH at hsm
                simp only at hsm
                have HSM := Lib.hid hsm
                have HP4 := Lib.hid hpr4
                clear hsm hpr4 hbb hq4 hf4 HT2
                go_wp2_with fail
                with_reducible refine HSM.out.mono ?_
                rintro e w5 ⟨rfl, hb5⟩
                have HP5 := Lib.hid (HP4.out.below hb5)
                clear hb5
                go_wp2_with fail
                go_meet
                case rel => exact ⟨[], l, HP5.out, by simp, by omega⟩
              · have hn : 0 < D.length := by cases D with
                  | nil => exact absurd rfl hDn
                  | cons _ _ => simp
                obtain ⟨kk, hkk⟩ : ∃ k, plc ii D.length = k := ⟨_, rfl⟩
                have HK := Lib.hid hkk
                have HT1 := Lib.hid (p_take HS.out hn hDle ii HK)
                clear hct hkk
                go_wp2_with fail
                with_reducible refine HT1.out.mono ?_
                rintro e w3 ⟨x, dx, hdx, hxs, rfl, hq3⟩
                obtain ⟨⟨g0, g1, g2, g3, g4, g5, g6, g7, g9⟩, A3, m3, c3, es3⟩ := x
                unfold ltV
                simp only
                have hr3 := hq3.reboxed (.cells #[.int .i64 g0, .int .i64 g1, .int .i64 g2, .int .u64 g3, .int .u64 g4, .int .u64 g5, .int .u64 g6, .bool g7, .slice A3 m3 c3, .string g9] 34)
                have hc3 := hq3.q2.cell 1
                simp only [List.getElem?_toArray, List.getElem?_cons_succ, List.getElem?_cons_zero] at hc3
                have hbx3 := lt_at hq3.q2.1
                have HT2 := Lib.hid (m_take3 hr3 hn hDle ii HK)
                have HDX := Lib.hid hdx
                have HXS := Lib.hid hxs
                clear hr3 hq3 HT1 hc1 hdx hxs
                go_wp2_with fail
                with_reducible refine HT2.out.mono ?_
                rintro e w4 ⟨y, dy, hdy, hys, rfl, ⟨E4, hf4⟩, ⟨E3, hf3⟩, hq4⟩
                have hsd : Lt.said ⟨⟨g0, g1, g2, g3, g4, g5, g6, g7, g9⟩, A3, m3, c3, es3⟩ = y.said := by
                  have h := HDX.out
                  rw [hdy] at h
                  rw [HXS.out, hys]
                  exact (Option.some.inj h).symm
                obtain ⟨⟨h0, h1, h2, h3, h4, h5, h6, h7, h9⟩, A4, m4, c4, es4⟩ := y
                unfold ltV
                simp only
                obtain ⟨y0, y1, y2, y3, y4, y5, y6, y7, y8, y9, hly⟩ := ten_at hq4.1
                have hbb := (Below.refl w4.heap.size w4).alloc (Nat.le_refl _) (.cells #[.int .i64 h0, .int .i64 h1, .int .i64 h2, .int .u64 h3, .int .u64 h4, .int .u64 h5, .int .u64 h6, .bool h7, .slice A4 m4 c4, .string h9] 34)
                have hsm := same_any (hf3.below hbb) (hf4.below hbb) hsd
                have hpr4 := hq4.pr.below hbb
                obtain ⟨De, hDe⟩ : ∃ De, D.eraseIdx kk = De := ⟨_, rfl⟩
                rw [hDe] at hpr4
                have hele : De.length ≤ 256 := by rw [← hDe]; exact Nat.le_trans (List.length_eraseIdx_le _ _) hDle
                unfold ltV at hsm
                simp only at hsm
                have HSM := Lib.hid hsm
                have HP4 := Lib.hid hpr4
                clear hsm hpr4 hbb hq4 hf4 hf3 HT2 hsd hdy hys hDe
                go_wp2_with fail
                with_reducible refine HSM.out.mono ?_
                rintro e w5 ⟨rfl, hb5⟩
                have HP5 := Lib.hid (HP4.out.below hb5)
                clear hb5
                go_wp2_with fail
                go_meet
                case rel => exact ⟨De, l, HP5.out, hele, by omega⟩
            · have hk1B : (kd == 1) = false := by simpa using hk1
              by_cases hk2 : kd = 2
              · subst hk2
                by_cases hDn : D = []
                · subst hDn
                  have HT1 := Lib.hid (m_takeN HS.out ii)
                  clear hct
                  go_wp2_with fail
                  with_reducible refine HT1.out.mono ?_
                  rintro e w3 ⟨rfl, hq3⟩
                  unfold ltV zeroL zeroH
                  simp only
                  have hbb := (Below.refl w3.heap.size w3).alloc (Nat.le_refl _) (.cells #[.int .i64 0, .int .i64 0, .int .i64 0, .int .u64 0, .int .u64 0, .int .u64 0, .int .u64 0, .bool false, .slice none 0 0, .string ⟨#[]⟩] 34)
                  have HT2 := Lib.hid (p_loseN (hq3.next hbb) ii)
                  have hc3 := hq3.cell 1
                  simp only [List.getElem?_toArray, List.getElem?_cons_succ, List.getElem?_cons_zero] at hc3
                  have hbx3 := lt_at hq3.1
                  clear hq3 hbb HT1 hc1
                  go_wp2_with fail
                  with_reducible refine HT2.out.mono ?_
                  rintro e w4 ⟨rfl, hq4⟩
                  have HP4 := Lib.hid hq4.pr
                  clear hq4
                  go_wp2_with fail
                  go_meet
                  case rel => exact ⟨[], l, HP4.out, Nat.zero_le _, Nat.le_succ_of_le hlk⟩
                · have hn : 0 < D.length := by cases D with
                    | nil => exact absurd rfl hDn
                    | cons _ _ => simp
                  obtain ⟨kk, hkk⟩ : ∃ k, plc ii D.length = k := ⟨_, rfl⟩
                  have HK := Lib.hid hkk
                  have HT1 := Lib.hid (m_take HS.out hn hDle ii HK)
                  clear hct hkk
                  go_wp2_with fail
                  with_reducible refine HT1.out.mono ?_
                  rintro e w3 ⟨x, dx, hdx, hxs, rfl, hfx, hq3⟩
                  obtain ⟨⟨g0, g1, g2, g3, g4, g5, g6, g7, g9⟩, A3, m3, c3, es3⟩ := x
                  unfold ltV
                  simp only
                  obtain ⟨q1, qf, ql, hq5⟩ := q_lost hq3 (l + 1)
                  rw [show ((l + 1 : Nat) : Int) = (l : Int) + 1 from by omega] at hq5
                  have hne := q_ne hq3
                  have hc3 := hq3.cell 1
                  simp only [List.getElem?_toArray, List.getElem?_cons_succ, List.getElem?_cons_zero] at hc3
                  have hbx3 := lt_at hq3.1
                  have hbb := (Below.refl (w3.setCell ⟨q, 1, none⟩ (.int .i64 ((l : Int) + 1))).heap.size (w3.setCell ⟨q, 1, none⟩ (.int .i64 ((l : Int) + 1)))).alloc (Nat.le_refl _) (.cells #[.int .i64 g0, .int .i64 g1, .int .i64 g2, .int .u64 g3, .int .u64 g4, .int .u64 g5, .int .u64 g6, .bool g7, .slice A3 m3 c3, .string g9] 34)
                  obtain ⟨De, hDe⟩ : ∃ De, D.eraseIdx kk = De := ⟨_, rfl⟩
                  have HT2 := p_lose (hq5.next hbb) hn hDle hl62 ii HK
                  rw [hDe] at HT2
                  have HT2 := Lib.hid HT2
                  have hele : De.length ≤ 256 := by rw [← hDe]; exact Nat.le_trans (List.length_eraseIdx_le _ _) hDle
                  have hle63 := one_more hl62
                  clear hq3 hq5 hbb HT1 hc1 hDe hdx hxs hfx
                  go_wp2_with fail
                  with_reducible refine HT2.out.mono ?_
                  rintro e w4 ⟨rfl, hq4⟩
                  have HP4 := Lib.hid hq4.pr
                  clear hq4
                  go_wp2_with fail
                  go_meet
                  case rel => exact ⟨De, l + 1, HP4.out, hele, Nat.succ_le_succ hlk⟩
              · have hk2B : (kd == 2) = false := by simpa using hk2
                by_cases hDn : D = []
                · subst hDn
                  have HT1 := Lib.hid (m_placeN HS.out ii)
                  clear hct
                  go_wp2_with fail
                  with_reducible refine HT1.out.mono ?_
                  rintro e w3 ⟨rfl, hq3⟩
                  have hc3 := hq3.cell 1
                  simp only [List.getElem?_toArray, List.getElem?_cons_succ, List.getElem?_cons_zero] at hc3
                  have hbx3 := lt_at hq3.1
                  have HT2 := Lib.hid (p_doubleN hq3 ii)
                  clear hq3 HT1 hc1
                  go_wp2_with fail
                  with_reducible refine HT2.out.mono ?_
                  rintro e w4 ⟨rfl, hq4⟩
                  have HP4 := Lib.hid hq4.pr
                  clear hq4 HT2
                  go_wp2_with fail
                  go_meet
                  case rel => exact ⟨[], l, HP4.out, Nat.zero_le _, Nat.le_succ_of_le hlk⟩
                · have hn : 0 < D.length := by cases D with
                    | nil => exact absurd rfl hDn
                    | cons _ _ => simp
                  obtain ⟨kk, hkk⟩ : ∃ k, plc ii D.length = k := ⟨_, rfl⟩
                  have hkl := plc_lt ii hn
                  rw [hkk] at hkl
                  obtain ⟨dk, hdk⟩ : ∃ d, D[kk]? = some d := ⟨_, List.getElem?_eq_getElem hkl⟩
                  obtain ⟨mm, hmm⟩ : ∃ m, D.length = m := ⟨_, rfl⟩
                  rw [hmm] at hkl
                  obtain ⟨s, hs⟩ : ∃ s, decide (D.length < 256) = s := ⟨_, rfl⟩
                  obtain ⟨D1, hD1⟩ : ∃ D1, sent D dk = D1 := ⟨_, rfl⟩
                  obtain ⟨l1, hl1⟩ : ∃ l1, slost D l = l1 := ⟨_, rfl⟩
                  have hle := sent_le (d := dk) hDle
                  have hle2 := slost_le (D := D) (l := l)
                  rw [hD1] at hle
                  rw [hl1] at hle2
                  have hlk1 : l1 ≤ k + 1 := Nat.le_trans hle2 (Nat.succ_le_succ hlk)
                  have HSs := Lib.hid hs
                  have HD1 := Lib.hid hD1
                  have HL1 := Lib.hid hl1
                  have HK := Lib.hid hkk
                  have HDK := Lib.hid hdk
                  have HMM := Lib.hid hmm
                  have hss : (s != s) = false := by simp
                  have HT1 := Lib.hid (m_place HS.out hn hDle ii HK)
                  clear hct hkk hs hD1 hl1 hmm hdk hle2
                  go_wp2_with fail
                  with_reducible refine HT1.out.mono ?_
                  rintro e w3 ⟨rfl, hq3⟩
                  have hc3 := hq3.cell 1
                  simp only [List.getElem?_toArray, List.getElem?_cons_succ, List.getElem?_cons_zero] at hc3
                  have hbx3 := lt_at hq3.1
                  have HT2 := Lib.hid (p_double hq3 hn hDle hl62 ii HK HDK HSs HD1 HL1)
                  clear hq3 HT1 hc1
                  go_wp2_with fail
                  with_reducible refine HT2.out.mono ?_
                  rintro e w4 ⟨rfl, hq4⟩
                  obtain ⟨c5, b5, o5, y, c0, hmc, hb5, hqlt, hten, hsy, hfy⟩ := q_letter hq4 HDK.out HMM
                  have hms := m_send hq4 hl62 hfy hsy HSs HD1 HL1
                  obtain ⟨y0, y1, y2, y3, y4, y5, y6, y7, y8, y9⟩ := hten
                  obtain ⟨⟨h0, h1, h2, h3, h4, h5, h6, h7, h9⟩, A4, m4, c4, es4⟩ := y
                  unfold ltV at hms
                  simp only at hms y0 y1 y2 y3 y4 y5 y6 y7 y8 y9
                  have HMS := Lib.hid hms
                  have hkkI : (kk : Int) < (mm : Int) := Int.ofNat_lt.2 hkl
                  have hkk0 : (0 : Int) ≤ (kk : Int) := Int.natCast_nonneg kk
                  have hkk1 := max_zero kk
                  clear hms hq4 HT2 hsy hfy
                  go_wp2_with fail
                  with_reducible refine HMS.out.mono ?_
                  rintro e w5 ⟨rfl, hq5⟩
                  have HP5 := Lib.hid hq5.pr
                  clear hq5 HMS
                  go_wp2_with fail
                  go_meet
                  case rel => exact ⟨D1, l1, HP5.out, hle, hlk1⟩
      · have HPrr := Lib.hid hpr
        obtain ⟨m5, hm5⟩ : ∃ m, D.length = m := ⟨_, rfl⟩
        rw [hm5] at hDle
        have HM5 := Lib.hid hm5
        clear hm5 hpr
        by_cases hkn : k < n
        · obtain rfl : k = 400 := by omega
          have hkI : ((400 : Nat) : Int) < (n : Int) := by omega
          have hkI' : (400 : Int) < (n : Int) := by omega
          obtain ⟨⟨kd, ii, ⟨⟨f0, f1, f2, f3, f4, f5, f6, f7, f9⟩, A2, m2, c2, es⟩⟩, b, o, rfl, hbl, htw, hcame⟩ := holds_at HH.out hbw hkn
          obtain ⟨t0, t1, d0, d1, d2, d3, d4, d5, d6, d7, d8, d9⟩ := twelve htw
          have hbl2 : b < wr.heap.size := Nat.lt_of_lt_of_le hbl hbw.size
          simp only [Nat.reduceMul] at t0 t1 d0 d1 d2 d3 d4 d5 d6 d7 d8 d9
          obtain ⟨A5, c5, hst⟩ := sta_of (HPrr.out.boxed (.cells #[.int .i64 kd, .int .i64 ii, .int .i64 f0, .int .i64 f1, .int .i64 f2, .int .u64 f3, .int .u64 f4, .int .u64 f5, .int .u64 f6, .bool f7, .slice A2 m2 c2, .string f9] 36)).pr HM5
          have e0 := hst.2.1
          have eq5 := hst.2.2.2
          have HSt := Lib.hid hst
          clear hst htw hcame
          go_wp2_with fail
          go_region_held3 (fun W => W.cell? ⟨q, 0, none⟩ = some (.slice A5 m5 c5))
            (first
              | exact e0
              | exact hA.1.2.1
              | exact hD.2.1)
            (first
              | (go_at_call 21
                 with_reducible refine (s_all (by first | exact HSt.out | exact HSt.out.drew) hDle HM5).mono ?_
                 rintro e wA ⟨A6, c6, rfl, hA⟩)
              | (go_at_call 20
                 with_reducible refine (s_rall hA hDle).mono ?_
                 rintro e wD ⟨rfl, hD⟩))
          all_goals go_wp2
          all_goals go_ret
          all_goals exact ⟨rfl, hD.1.bel⟩
        · obtain rfl : k = n := by omega
          obtain ⟨A5, c5, hst⟩ := sta_of HPrr.out HM5
          have e0 := hst.2.1
          have eq5 := hst.2.2.2
          have HSt := Lib.hid hst
          clear hst
          go_wp2_with fail
          go_region_held3 (fun W => W.cell? ⟨q, 0, none⟩ = some (.slice A5 m5 c5))
            (first
              | exact e0
              | exact hA.1.2.1
              | exact hD.2.1)
            (first
              | (go_at_call 21
                 with_reducible refine (s_all (by first | exact HSt.out | exact HSt.out.drew) hDle HM5).mono ?_
                 rintro e wA ⟨A6, c6, rfl, hA⟩)
              | (go_at_call 20
                 with_reducible refine (s_rall hA hDle).mono ?_
                 rintro e wD ⟨rfl, hD⟩))
          all_goals go_wp2
          all_goals go_ret
          all_goals exact ⟨rfl, hD.1.bel⟩
end Go.Proofs.Ytfcdaelbbcfgjaa.LawE
