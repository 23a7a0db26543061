/- What the document's Receive leaves of an asking that it refuses, walked. -/
import Derived.Test.YtojmbbldehbjfaaGreatGD5
set_option linter.unusedVariables false
namespace Go.Proofs.YtojmbbldehbjfaaGreat.DWo
open Go.RowKit Go.Proofs.YtojmbbldehbjfaaGreat.Kit Go.Proofs.YtojmbbldehbjfaaGreat.Blocks Go.Proofs.YtojmbbldehbjfaaGreat.Rlog Go.Proofs.YtojmbbldehbjfaaGreat.Ents Go.Proofs.YtojmbbldehbjfaaGreat.LogAt Go.Proofs.YtojmbbldehbjfaaGreat.Nod Go.Proofs.YtojmbbldehbjfaaGreat.NodAt Go.Proofs.YtojmbbldehbjfaaGreat.AppL Go.Proofs.YtojmbbldehbjfaaGreat.DAt Go.Proofs.YtojmbbldehbjfaaGreat.DWa Go.Proofs.YtojmbbldehbjfaaGreat.DWb Go.Proofs.YtojmbbldehbjfaaGreat.DWe Go.Proofs.YtojmbbldehbjfaaGreat.DWf Go.Proofs.YtojmbbldehbjfaaGreat.DWg Go.Proofs.YtojmbbldehbjfaaGreat.DWj Go.Proofs.YtojmbbldehbjfaaGreat.DWk Go.Proofs.YtojmbbldehbjfaaGreat.DWl Go.Proofs.YtojmbbldehbjfaaGreat.DWm Go.Proofs.YtojmbbldehbjfaaGreat.DWn
open Go.Proofs.YtojmbbldehbjfaaGreat.Quorum (mem size need sound maj node has turn change)

section
variable {B p N : Nat} {z : Seat} {m : Nd} {w : World}
set_option maxRecDepth 100000 in
set_option maxHeartbeats 8000000 in
theorem dreceive_no (h : DAt B w p z m) (f : NdB N m) (hN : N ≤ 700000000) (x : Msg) (a : Pl) (hx : MsgB x) (hf : Fit w (Mine p z) x a) (hes : x.es.length ≤ 100000000) (hh : hears m x = true) (hk : x.k = 1) (hgr : grants (heard m x) x = false) :
    Calls Tryz.prog 35 #[.pointer (some ⟨p, 0, none⟩), ltV x a] w (DoesD B w p z (handles (heard m x) x)) := by
  have hba : Below w.heap.size w (w.alloc (.cells (ltCs x a).toArray 47)) := (Below.refl _ _).alloc (Nat.le_refl _) _
  have hbx := LBox.new w x a
  have hfo := fun W (hb : Below w.heap.size w W) => dfollow_any (h.below hb) f hx.tm
  have hhb := heard_b f hx
  have hnod := hears_node hh
  have hixs := hears_ix hh
  have hkis := hk
  have hc := heed hh
  have hh1 : m.term < x.tm → heard m x = followN m x.tm := fun e => if_pos e
  have hh2 : ¬ m.term < x.tm → heard m x = m := fun e => if_neg e
  obtain ⟨m0, hm0⟩ : ∃ m0, heard m x = m0 := ⟨_, rfl⟩
  rw [hm0] at hhb hh1 hh2 hgr ⊢
  obtain ⟨M, hM⟩ : ∃ M, handles m0 x = M := ⟨_, rfl⟩
  rw [hM]
  have H := Lib.hid h
  have HX := Lib.hid hx
  have HFit := Lib.hid hf
  have HFo := Lib.hid hfo
  have HF0 := Lib.hid hhb
  have Hn := Lib.hid hnod
  have Hi := Lib.hid hixs
  have Hk := Lib.hid hkis
  have HGr := Lib.hid hgr
  have HM := Lib.hid hM
  have Hh1 := Lib.hid hh1
  have Hh2 := Lib.hid hh2
  have Hes := Lib.hid hes
  clear h f hx hf hfo hhb hnod hixs hkis hM hh1 hh2 hm0 hes hh hk hgr
  obtain ⟨kd, fr, tt, tm, ix, pv, cm, ok, es, d⟩ := x
  unfold ltV
  simp only [ltCs] at hba hbx hc Hh1 Hh2 ⊢
  have x3 := hbx.c3
  have x0 := hbx.c0
  have x1 := hbx.c1
  have x2 := hbx.c2
  have x4 := hbx.c4
  have hlt := hbx.lt
  simp only at hbx x0 x1 x2 x3 x4 hlt
  obtain ⟨w0, hw0⟩ : ∃ w0, w.alloc (.cells [.int .i64 kd, .int .i64 fr, .int .i64 tt, .int .u64 (tm : Int), .int .u64 (ix : Int), .int .u64 (pv : Int), .int .u64 (cm : Int), .bool ok, .slice a.A a.n a.c, .string d].toArray 47) = w0 := ⟨_, rfl⟩
  rw [hw0] at hba hbx x0 x1 x2 x3 x4 hlt
  obtain ⟨Y, hY⟩ : ∃ Y, m.term = Y := ⟨_, rfl⟩
  rw [hY] at Hh1 Hh2
  have HW0 := Lib.hid hw0
  have HBA := Lib.hid hba
  have HBX := Lib.hid hbx
  have h0 := H.out.below hba
  have c0 := DAt.c0 h0
  have c1 := DAt.c1 h0
  have hp0 := DAt.plt h0
  obtain ⟨I, hI⟩ : ∃ I, m.id = I := ⟨_, rfl⟩
  rw [hI] at c0 hc
  rw [hY] at c1
  have HY := Lib.hid hY
  obtain ⟨e1, e2, e3, e4, e5, e6, e7⟩ := hc
  have d1 : decide (kd < 1) = false := decide_eq_false e1
  have d2 : decide ((5 : Int) < kd) = false := decide_eq_false e2
  have d3 : (tt != (I : Int)) = false := by simpa using e3
  have d4 : decide (fr < 0) = false := decide_eq_false e4
  have d5 : decide ((6 : Int) < fr) = false := decide_eq_false e5
  have d6 : (fr == (I : Int)) = false := by simpa using e6
  have d7 : decide ((4611686018427387904 : Int) < (ix : Int)) = false := by simp; omega
  clear hw0 hba hbx hY hI h0 e3
  go_enter Tryz.func35, Tryz.ntmps35
  go_wp2_with fail
  rw [HW0.out]
  go_quiet (fail)
  have HB1 : Hid (Below w.heap.size w (w0.drewN nq)) := Lib.hid (below_drewN HBA.out nq)
  have HX1 : Hid (LBox (w0.drewN nq) w.heap.size ⟨kd, fr, tt, tm, ix, pv, cm, ok, es, d⟩ a) := Lib.hid (HBX.out.below (below_drewN (Below.refl _ _) nq))
  have x3' : (w0.drewN nq).cell? ⟨w.heap.size, 3, none⟩ = some (.int .u64 (tm : Int)) := x3
  have c1' : (w0.drewN nq).cell? ⟨p, 1, none⟩ = some (.int .u64 (Y : Int)) := c1
  have hp1 : p < (w0.drewN nq).heap.size := hp0
  clear x0 x1 x2 x3 x4 c0 c1 hp0 hlt HW0 HBA HBX d1 d2 d3 d4 d5 d6 d7 e1 e2 e5 e6 e7
  generalize w0.drewN nq = w1 at HB1 HX1 x3' c1' hp1 ⊢
  as_aux_lemma =>
  go_wp2_with fail
  go_quiet (fail)
  have HBQ : Hid (Below w.heap.size w (w1.drewN nq)) := below_drewN HB1.out nq
  have x3 : (w1.drewN nq).cell? ⟨w.heap.size, 3, none⟩ = some (.int .u64 (tm : Int)) := x3'
  have HXQ : Hid (LBox (w1.drewN nq) w.heap.size ⟨kd, fr, tt, tm, ix, pv, cm, ok, es, d⟩ a) := Lib.hid (HX1.out.below (below_drewN (Below.refl _ _) nq))
  clear x3' c1' HB1 HX1 hp1
  generalize w1.drewN nq = wq at HBQ x3 HXQ ⊢
  as_aux_lemma =>
  go_upto_if 55 with fail
  go_cut [] from 4 to 59 (fun wx => MidD B w p z m0 ⟨kd, fr, tt, tm, ix, pv, cm, ok, es, d⟩ a wx)
  case first =>
    by_cases hgt : Y < tm
    · have hgd : decide ((Y : Int) < (tm : Int)) = true := by simp; omega
      have hc := HFo.out _ HBQ.out
      rw [← Hh1.out hgt] at hc
      have HC := Lib.hid hc
      clear hc
      go_wp2_with fail
      with_reducible refine HC.out.mono ?_
      rintro e w2 ⟨rfl, z2, h2, g2⟩
      have hno : ¬ Mine p z w.heap.size := fun e => by have := (DAt.mine_lt H.out e).2; omega
      have HMid : Hid (MidD B w p z m0 ⟨kd, fr, tt, tm, ix, pv, cm, ok, es, d⟩ a w2) := Lib.hid ⟨z2, h2, (Grow.of_below z HBQ.out).trans g2, HXQ.out.keep g2.only hno, WalkG.Grow.out g2 hno HXQ.out.lt⟩
      clear h2 g2
      go_wp2_with fail
      go_meet
      (with_reducible exact HMid.out)
    · have hgd : decide ((Y : Int) < (tm : Int)) = false := by simp; omega
      have HMid : Hid (MidD B w p z m0 ⟨kd, fr, tt, tm, ix, pv, cm, ok, es, d⟩ a wq) := Lib.hid ⟨z, by rw [Hh2.out hgt]; exact H.out.below HBQ.out, Grow.of_below z HBQ.out, HXQ.out, fun e => by have := (DAt.mine_lt H.out e).2; omega⟩
      go_wp2_with fail
      go_meet
      (with_reducible exact HMid.out)
  case rest =>
    obtain ⟨z2, h2, g2, hbx, hno2⟩ := hcut
    have HNo2 := Lib.hid hno2
    clear hno2
    have y0 := hbx.c0
    have y1 := hbx.c1
    have y2 := hbx.c2
    have y3 := hbx.c3
    have y4 := hbx.c4
    have y5 := hbx.c5
    have y6 := hbx.c6
    have y7 := hbx.c7
    have y8 := hbx.c8
    have y9 := hbx.c9
    have hlx := hbx.lt
    (try simp only at y0 y1 y2 y3 y4 y5 y6 y7 y8 y9)
    have H2 := Lib.hid h2
    have G2 := Lib.hid g2
    have HFit2 := Lib.hid (g2.fit HFit.out)
    have hk := Hk.out
    (try simp only at hk)
    clear h2 g2 hbx x3 HBQ HXQ Hk Hh1 Hh2 HFo HFit H e4
    subst hk
    as_aux_lemma =>
      have HM1 : Hid (asked m0 ⟨1, fr, tt, tm, ix, pv, cm, ok, es, d⟩ = M) := Lib.hid HM.out
      have hlast := dlast_any H2.out
      have hv0 := HF0.out.v0
      have hff := node_lt Hn.out
      (try simp only at hff)
      obtain ⟨T0, hT0⟩ : ∃ T0, m0.term = T0 := ⟨_, rfl⟩
      obtain ⟨R0, hR0⟩ : ∃ R0, m0.role = R0 := ⟨_, rfl⟩
      obtain ⟨V0, hV0⟩ : ∃ V0, m0.vote = V0 := ⟨_, rfl⟩
      obtain ⟨LI, hLI⟩ : ∃ LI, (last m0.g).1 = LI := ⟨_, rfl⟩
      obtain ⟨LT, hLT⟩ : ∃ LT, (last m0.g).2 = LT := ⟨_, rfl⟩
      rw [hLI, hLT] at hlast
      have hw := vote_which (x := ⟨1, fr, tt, tm, ix, pv, cm, ok, es, d⟩) hv0 hT0 hR0 hV0 hLI hLT rfl rfl rfl rfl
      have hgr := HGr.out
      (try simp only at hgr)
      obtain ⟨GR, hGR⟩ : ∃ GR, grants m0 ⟨1, fr, tt, tm, ix, pv, cm, ok, es, d⟩ = GR := ⟨_, rfl⟩
      have hM2 : M = post (if GR = true then votesFor m0 fr else m0) { blankM with k := 2, t := fr, ok := GR } := by rw [← HM1.out, ← hGR]; rfl
      rw [hGR] at hw
      have q3 := DAt.c3 H2.out
      have HM2 := Lib.hid hM2
      have HLast := Lib.hid hlast
      have HW := Lib.hid hw
      have HT := Lib.hid hT0
      have HR := Lib.hid hR0
      have HVo := Lib.hid hV0
      rw [hGR] at hgr
      have HGr2 := Lib.hid hgr
      clear hgr
      clear HM HM1 hlast hw hM2 hGR hLI hLT hT0 hR0 hV0 hv0
      go_wp2_with fail
      with_reducible refine HLast.out.mono ?_
      rintro e w3 ⟨rfl, hb3⟩
      have h3 := H2.out.below hb3
      have r1 := DAt.c1 h3
      have r2 := DAt.c2 h3
      have r4 := DAt.c4 h3
      rw [HT.out] at r1
      rw [HVo.out] at r2
      rw [HR.out] at r4
      have hp3 := DAt.plt h3
      have v1 := (hb3.cell (p := ⟨w.heap.size, 1, none⟩) hlx).trans y1
      have v3 := (hb3.cell (p := ⟨w.heap.size, 3, none⟩) hlx).trans y3
      have v4 := (hb3.cell (p := ⟨w.heap.size, 4, none⟩) hlx).trans y4
      have v5 := (hb3.cell (p := ⟨w.heap.size, 5, none⟩) hlx).trans y5
      have hne : ¬ w.heap.size = p := fun e => HNo2.out (.inl e)
      have hne2 : ¬ p = w.heap.size := fun e => hne e.symm
      have G4 : Hid (∀ nq, Grow p z z2 w (w3.drewN nq)) := Lib.hid fun nq => G2.out.thenBelow (below_drewN hb3 nq)
      have HB3 := Lib.hid hb3
      clear hb3 h3 y0 y1 y2 y3 y4 y5 y6 y7 y8 y9 HLast HX HFit2 q3
      as_aux_lemma =>
      rcases HW.out with ⟨hg, hw⟩ | ⟨hg, _⟩
      · subst hg
        have HS : Hid (∀ nq, Calls Tryz.prog 67 #[.pointer (some ⟨p, 0, none⟩), .agg #[.int .i64 2, .int .i64 0, .int .i64 fr, .int .u64 0, .int .u64 0, .int .u64 0, .int .u64 0, .bool false, .slice none 0 0, .string ⟨#[]⟩]] (w3.drewN nq) (DoesD B (w3.drewN nq) p z2 M)) := Lib.hid fun nq => by
          have := dsend_any (H2.out.below (below_drewN HB3.out nq)) HF0.out (by omega) { blankM with k := 2, t := fr, ok := false } noPl (Fit.none _ _ rfl)
          rw [HM2.out, if_neg (by simp)]
          exact this
        clear HM2 HW
        rcases hw with ⟨q1⟩ | ⟨q1, q2⟩ | ⟨q1, q2, q3, q4⟩ | ⟨q1, q2, q3, q5, q6⟩ | ⟨q1, q2, q3, q5, q6, q7⟩ | ⟨q1, q2, q3, q4, q5, q6⟩ | ⟨q1, q2, q3, q4, q5, q6, q7⟩
        · as_aux_lemma =>
          have b1 : ((tm : Int) == (T0 : Int)) = false := by simp; omega
          go_wp2_with fail
          go_quiet (fail)
          have HS2 := Lib.hid (HS.out nq)
          have G5 := Lib.hid (G4.out nq)
          clear HS G4
          go_wp2_with fail
          with_reducible refine HS2.out.mono ?_
          rintro e w5 ⟨rfl, hl⟩
          have HL := Lib.hid hl
          clear hl
          go_wp2
          go_end0
          exact ⟨rfl, LeftD.then G5.out HL.out⟩
        · as_aux_lemma =>
          have b1 : ((tm : Int) == (T0 : Int)) = true := by simp; omega
          have b2 : ((R0 : Int) == 0) = false := by simp; omega
          clear q1
          go_wp2_with fail
          go_quiet (fail)
          have HS2 := Lib.hid (HS.out nq)
          have G5 := Lib.hid (G4.out nq)
          clear HS G4
          go_wp2_with fail
          with_reducible refine HS2.out.mono ?_
          rintro e w5 ⟨rfl, hl⟩
          have HL := Lib.hid hl
          clear hl
          go_wp2
          go_end0
          exact ⟨rfl, LeftD.then G5.out HL.out⟩
        · as_aux_lemma =>
          have b1 : ((tm : Int) == (T0 : Int)) = true := by simp; omega
          have b2 : ((R0 : Int) == 0) = true := by simp; omega
          have b3 : decide (V0 < 0) = false := decide_eq_false (by omega)
          have b4 : (V0 == fr) = false := by simp; omega
          clear q1 q2
          go_wp2_with fail
          go_quiet (fail)
          have HS2 := Lib.hid (HS.out nq)
          have G5 := Lib.hid (G4.out nq)
          clear HS G4
          go_wp2_with fail
          with_reducible refine HS2.out.mono ?_
          rintro e w5 ⟨rfl, hl⟩
          have HL := Lib.hid hl
          clear hl
          go_wp2
          go_end0
          exact ⟨rfl, LeftD.then G5.out HL.out⟩
        · as_aux_lemma =>
          have b1 : ((tm : Int) == (T0 : Int)) = true := by simp; omega
          have b2 : ((R0 : Int) == 0) = true := by simp; omega
          have b3 : decide (V0 < 0) = true := decide_eq_true (by omega)
          have b5 : decide ((LT : Int) < (pv : Int)) = false := by simp; omega
          have b6 : ((pv : Int) == (LT : Int)) = false := by simp; omega
          clear q1 q2
          go_wp2_with fail
          go_quiet (fail)
          have HS2 := Lib.hid (HS.out nq)
          have G5 := Lib.hid (G4.out nq)
          clear HS G4
          go_wp2_with fail
          with_reducible refine HS2.out.mono ?_
          rintro e w5 ⟨rfl, hl⟩
          have HL := Lib.hid hl
          clear hl
          go_wp2
          go_end0
          exact ⟨rfl, LeftD.then G5.out HL.out⟩
        · as_aux_lemma =>
          have b1 : ((tm : Int) == (T0 : Int)) = true := by simp; omega
          have b2 : ((R0 : Int) == 0) = true := by simp; omega
          have b3 : decide (V0 < 0) = true := decide_eq_true (by omega)
          have b5 : decide ((LT : Int) < (pv : Int)) = false := by simp; omega
          have b6 : ((pv : Int) == (LT : Int)) = true := by simp; omega
          have b7 : decide ((LI : Int) ≤ (ix : Int)) = false := by simp; omega
          clear q1 q2 q6
          go_wp2_with fail
          go_quiet (fail)
          have HS2 := Lib.hid (HS.out nq)
          have G5 := Lib.hid (G4.out nq)
          clear HS G4
          go_wp2_with fail
          with_reducible refine HS2.out.mono ?_
          rintro e w5 ⟨rfl, hl⟩
          have HL := Lib.hid hl
          clear hl
          go_wp2
          go_end0
          exact ⟨rfl, LeftD.then G5.out HL.out⟩
        · as_aux_lemma =>
          have b1 : ((tm : Int) == (T0 : Int)) = true := by simp; omega
          have b2 : ((R0 : Int) == 0) = true := by simp; omega
          have b3 : decide (V0 < 0) = false := decide_eq_false (by omega)
          have b4 : (V0 == fr) = true := by simp; omega
          have b5 : decide ((LT : Int) < (pv : Int)) = false := by simp; omega
          have b6 : ((pv : Int) == (LT : Int)) = false := by simp; omega
          clear q1 q2 q4
          go_wp2_with fail
          go_quiet (fail)
          have HS2 := Lib.hid (HS.out nq)
          have G5 := Lib.hid (G4.out nq)
          clear HS G4
          go_wp2_with fail
          with_reducible refine HS2.out.mono ?_
          rintro e w5 ⟨rfl, hl⟩
          have HL := Lib.hid hl
          clear hl
          go_wp2
          go_end0
          exact ⟨rfl, LeftD.then G5.out HL.out⟩
        · as_aux_lemma =>
          have b1 : ((tm : Int) == (T0 : Int)) = true := by simp; omega
          have b2 : ((R0 : Int) == 0) = true := by simp; omega
          have b3 : decide (V0 < 0) = false := decide_eq_false (by omega)
          have b4 : (V0 == fr) = true := by simp; omega
          have b5 : decide ((LT : Int) < (pv : Int)) = false := by simp; omega
          have b6 : ((pv : Int) == (LT : Int)) = true := by simp; omega
          have b7 : decide ((LI : Int) ≤ (ix : Int)) = false := by simp; omega
          clear q1 q2 q4 q6
          go_wp2_with fail
          go_quiet (fail)
          have HS2 := Lib.hid (HS.out nq)
          have G5 := Lib.hid (G4.out nq)
          clear HS G4
          go_wp2_with fail
          with_reducible refine HS2.out.mono ?_
          rintro e w5 ⟨rfl, hl⟩
          have HL := Lib.hid hl
          clear hl
          go_wp2
          go_end0
          exact ⟨rfl, LeftD.then G5.out HL.out⟩
      · exact absurd (hg.symm.trans HGr2.out) (by decide)
end
end Go.Proofs.YtojmbbldehbjfaaGreat.DWo
