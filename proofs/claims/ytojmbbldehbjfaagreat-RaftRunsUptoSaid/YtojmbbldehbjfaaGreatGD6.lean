/- What the document's Receive leaves, whole. -/
import Derived.Test.YtojmbbldehbjfaaGreatGD5
import Derived.Test.YtojmbbldehbjfaaGreatHDWo
import Derived.Test.YtojmbbldehbjfaaGreatHDWp
set_option linter.unusedVariables false
namespace Go.Proofs.YtojmbbldehbjfaaGreat.DWq
open Go.RowKit Go.Proofs.YtojmbbldehbjfaaGreat.Kit Go.Proofs.YtojmbbldehbjfaaGreat.Blocks Go.Proofs.YtojmbbldehbjfaaGreat.Rlog Go.Proofs.YtojmbbldehbjfaaGreat.Ents Go.Proofs.YtojmbbldehbjfaaGreat.LogAt Go.Proofs.YtojmbbldehbjfaaGreat.Nod Go.Proofs.YtojmbbldehbjfaaGreat.NodAt Go.Proofs.YtojmbbldehbjfaaGreat.AppL Go.Proofs.YtojmbbldehbjfaaGreat.DAt Go.Proofs.YtojmbbldehbjfaaGreat.DWa Go.Proofs.YtojmbbldehbjfaaGreat.DWb Go.Proofs.YtojmbbldehbjfaaGreat.DWe Go.Proofs.YtojmbbldehbjfaaGreat.DWf Go.Proofs.YtojmbbldehbjfaaGreat.DWg Go.Proofs.YtojmbbldehbjfaaGreat.DWj Go.Proofs.YtojmbbldehbjfaaGreat.DWk Go.Proofs.YtojmbbldehbjfaaGreat.DWl Go.Proofs.YtojmbbldehbjfaaGreat.DWm Go.Proofs.YtojmbbldehbjfaaGreat.DWn
open Go.Proofs.YtojmbbldehbjfaaGreat.Quorum (mem size need sound maj node has turn change)

set_option maxRecDepth 100000 in
theorem or_bit : ∀ v : Fin 128, ∀ i : Fin 7, (v.val / 2 ^ i.val % 2 = 0 → v.val ||| 2 ^ i.val = v.val + 2 ^ i.val) ∧ (¬ v.val / 2 ^ i.val % 2 = 0 → v.val ||| 2 ^ i.val = v.val) := by decide
theorem shift_at (V I : Nat) : ((V : Int) / 2 ^ I).tmod 2 = ((V / 2 ^ I % 2 : Nat) : Int) := by
  rw [Int.tmod_eq_emod_of_nonneg (Int.ediv_nonneg (by omega) (by have := Int.pow_nonneg (n := 2) (m := I) (by decide); exact this))]
  push_cast
  rfl
section
variable {B p N : Nat} {z : Seat} {m : Nd} {w : World}
theorem DAt.c7 (h : DAt B w p z m) (hr : m.role = 1) : w.cell? ⟨p, 7, none⟩ = some (.int .u64 (m.votes : Int)) := by
  obtain ⟨vs, nx, mt, fr, h⟩ := h
  rw [← fr.v hr]
  exact DN.c7 h
theorem DAt.setV (h : DAt B w p z m) (hr : m.role = 1) (U : Nat) : DAt B (w.setCell ⟨p, 7, none⟩ (.int .u64 (U : Int))) p z { m with votes := U } ∧ Grow p z z w (w.setCell ⟨p, 7, none⟩ (.int .u64 (U : Int))) := by
  obtain ⟨vs, nx, mt, fr, h⟩ := h
  obtain ⟨h1, g1⟩ := DN.setTo h 7 (.int .u64 (U : Int)) { m with votes := U } U nx mt rfl rfl rfl rfl
  exact ⟨⟨U, nx, mt, ⟨fun _ => rfl, fr.n, fr.t, fr.nl, fr.ml⟩, h1⟩, g1⟩
set_option maxRecDepth 100000 in
set_option maxHeartbeats 8000000 in
theorem dreceive_vote (h : DAt B w p z m) (f : NdB N m) (hN : N ≤ 700000000) (x : Msg) (a : Pl) (hx : MsgB x) (hf : Fit w (Mine p z) x a) (hes : x.es.length ≤ 100000000) (hh : hears m x = true) (hk : x.k = 2) :
    Calls Tryz.prog 35 #[.pointer (some ⟨p, 0, none⟩), ltV x a] w (DoesD B w p z (handles (heard m x) x)) := by
  have hba : Below w.heap.size w (w.alloc (.cells (ltCs x a).toArray 47)) := (Below.refl _ _).alloc (Nat.le_refl _) _
  have hbx := LBox.new w x a
  have hfo := fun W (hb : Below w.heap.size w W) => dfollow_any (h.below hb) f hx.tm
  have hhb := heard_b f hx
  have hnod := hears_node hh
  have hixs := hears_ix hh
  have hkis := hk
  have hc := heed hh
  have hh1 : m.term < x.tm → heard m x = followN m x.tm := fun e => if_pos e
  have hh2 : ¬ m.term < x.tm → heard m x = m := fun e => if_neg e
  obtain ⟨m0, hm0⟩ : ∃ m0, heard m x = m0 := ⟨_, rfl⟩
  rw [hm0] at hhb hh1 hh2 ⊢
  obtain ⟨M, hM⟩ : ∃ M, handles m0 x = M := ⟨_, rfl⟩
  rw [hM]
  have H := Lib.hid h
  have HX := Lib.hid hx
  have HFit := Lib.hid hf
  have HFo := Lib.hid hfo
  have HF0 := Lib.hid hhb
  have Hn := Lib.hid hnod
  have Hi := Lib.hid hixs
  have Hk := Lib.hid hkis
  have HM := Lib.hid hM
  have Hh1 := Lib.hid hh1
  have Hh2 := Lib.hid hh2
  have Hes := Lib.hid hes
  clear h f hx hf hfo hhb hnod hixs hkis hM hh1 hh2 hm0 hes hh hk
  obtain ⟨kd, fr, tt, tm, ix, pv, cm, ok, es, d⟩ := x
  unfold ltV
  simp only [ltCs] at hba hbx hc Hh1 Hh2 ⊢
  have x3 := hbx.c3
  have x0 := hbx.c0
  have x1 := hbx.c1
  have x2 := hbx.c2
  have x4 := hbx.c4
  have hlt := hbx.lt
  simp only at hbx x0 x1 x2 x3 x4 hlt
  obtain ⟨w0, hw0⟩ : ∃ w0, w.alloc (.cells [.int .i64 kd, .int .i64 fr, .int .i64 tt, .int .u64 (tm : Int), .int .u64 (ix : Int), .int .u64 (pv : Int), .int .u64 (cm : Int), .bool ok, .slice a.A a.n a.c, .string d].toArray 47) = w0 := ⟨_, rfl⟩
  rw [hw0] at hba hbx x0 x1 x2 x3 x4 hlt
  obtain ⟨Y, hY⟩ : ∃ Y, m.term = Y := ⟨_, rfl⟩
  rw [hY] at Hh1 Hh2
  have HW0 := Lib.hid hw0
  have HBA := Lib.hid hba
  have HBX := Lib.hid hbx
  have h0 := H.out.below hba
  have c0 := DAt.c0 h0
  have c1 := DAt.c1 h0
  have hp0 := DAt.plt h0
  obtain ⟨I, hI⟩ : ∃ I, m.id = I := ⟨_, rfl⟩
  rw [hI] at c0 hc
  rw [hY] at c1
  have HY := Lib.hid hY
  obtain ⟨e1, e2, e3, e4, e5, e6, e7⟩ := hc
  have d1 : decide (kd < 1) = false := decide_eq_false e1
  have d2 : decide ((5 : Int) < kd) = false := decide_eq_false e2
  have d3 : (tt != (I : Int)) = false := by simpa using e3
  have d4 : decide (fr < 0) = false := decide_eq_false e4
  have d5 : decide ((6 : Int) < fr) = false := decide_eq_false e5
  have d6 : (fr == (I : Int)) = false := by simpa using e6
  have d7 : decide ((4611686018427387904 : Int) < (ix : Int)) = false := by simp; omega
  clear hw0 hba hbx hY hI h0 e3
  go_enter Tryz.func35, Tryz.ntmps35
  go_wp2_with fail
  rw [HW0.out]
  go_quiet (fail)
  have HB1 : Hid (Below w.heap.size w (w0.drewN nq)) := Lib.hid (below_drewN HBA.out nq)
  have HX1 : Hid (LBox (w0.drewN nq) w.heap.size ⟨kd, fr, tt, tm, ix, pv, cm, ok, es, d⟩ a) := Lib.hid (HBX.out.below (below_drewN (Below.refl _ _) nq))
  have x3' : (w0.drewN nq).cell? ⟨w.heap.size, 3, none⟩ = some (.int .u64 (tm : Int)) := x3
  have c1' : (w0.drewN nq).cell? ⟨p, 1, none⟩ = some (.int .u64 (Y : Int)) := c1
  have hp1 : p < (w0.drewN nq).heap.size := hp0
  clear x0 x1 x2 x3 x4 c0 c1 hp0 hlt HW0 HBA HBX d1 d2 d3 d4 d5 d6 d7 e1 e2 e5 e6 e7
  generalize w0.drewN nq = w1 at HB1 HX1 x3' c1' hp1 ⊢
  as_aux_lemma =>
  go_wp2_with fail
  go_quiet (fail)
  have HBQ : Hid (Below w.heap.size w (w1.drewN nq)) := below_drewN HB1.out nq
  have x3 : (w1.drewN nq).cell? ⟨w.heap.size, 3, none⟩ = some (.int .u64 (tm : Int)) := x3'
  have HXQ : Hid (LBox (w1.drewN nq) w.heap.size ⟨kd, fr, tt, tm, ix, pv, cm, ok, es, d⟩ a) := Lib.hid (HX1.out.below (below_drewN (Below.refl _ _) nq))
  clear x3' c1' HB1 HX1 hp1
  generalize w1.drewN nq = wq at HBQ x3 HXQ ⊢
  as_aux_lemma =>
  go_upto_if 55 with fail
  go_cut [] from 4 to 59 (fun wx => MidD B w p z m0 ⟨kd, fr, tt, tm, ix, pv, cm, ok, es, d⟩ a wx)
  case first =>
    by_cases hgt : Y < tm
    · have hgd : decide ((Y : Int) < (tm : Int)) = true := by simp; omega
      have hc := HFo.out _ HBQ.out
      rw [← Hh1.out hgt] at hc
      have HC := Lib.hid hc
      clear hc
      go_wp2_with fail
      with_reducible refine HC.out.mono ?_
      rintro e w2 ⟨rfl, z2, h2, g2⟩
      have hno : ¬ Mine p z w.heap.size := fun e => by have := (DAt.mine_lt H.out e).2; omega
      have HMid : Hid (MidD B w p z m0 ⟨kd, fr, tt, tm, ix, pv, cm, ok, es, d⟩ a w2) := Lib.hid ⟨z2, h2, (Grow.of_below z HBQ.out).trans g2, HXQ.out.keep g2.only hno, WalkG.Grow.out g2 hno HXQ.out.lt⟩
      clear h2 g2
      go_wp2_with fail
      go_meet
      (with_reducible exact HMid.out)
    · have hgd : decide ((Y : Int) < (tm : Int)) = false := by simp; omega
      have HMid : Hid (MidD B w p z m0 ⟨kd, fr, tt, tm, ix, pv, cm, ok, es, d⟩ a wq) := Lib.hid ⟨z, by rw [Hh2.out hgt]; exact H.out.below HBQ.out, Grow.of_below z HBQ.out, HXQ.out, fun e => by have := (DAt.mine_lt H.out e).2; omega⟩
      go_wp2_with fail
      go_meet
      (with_reducible exact HMid.out)
  case rest =>
    obtain ⟨z2, h2, g2, hbx, hno2⟩ := hcut
    have HNo2 := Lib.hid hno2
    clear hno2
    have y0 := hbx.c0
    have y1 := hbx.c1
    have y2 := hbx.c2
    have y3 := hbx.c3
    have y4 := hbx.c4
    have y5 := hbx.c5
    have y6 := hbx.c6
    have y7 := hbx.c7
    have y8 := hbx.c8
    have y9 := hbx.c9
    have hlx := hbx.lt
    (try simp only at y0 y1 y2 y3 y4 y5 y6 y7 y8 y9)
    have H2 := Lib.hid h2
    have G2 := Lib.hid g2
    have HFit2 := Lib.hid (g2.fit HFit.out)
    have hk := Hk.out
    (try simp only at hk)
    clear h2 g2 hbx x3 HBQ HXQ Hk Hh1 Hh2 HFo HFit H e4
    subst hk
    as_aux_lemma =>
    have HM1 : Hid (voted m0 ⟨2, fr, tt, tm, ix, pv, cm, ok, es, d⟩ = M) := Lib.hid HM.out
    have hff := node_lt Hn.out
    (try simp only at hff)
    obtain ⟨I, hI⟩ : ∃ I : Nat, fr = (I : Int) := ⟨fr.toNat, by omega⟩
    have hI7 : I < 7 := by omega
    subst hI
    have hMt : (m0.role = 1 ∧ tm = m0.term ∧ ok = true) → M = lead { m0 with votes := m0.votes ||| 2 ^ I } := fun e => by rw [← HM1.out]; exact if_pos e
    have hMf : ¬ (m0.role = 1 ∧ tm = m0.term ∧ ok = true) → M = m0 := fun e => by rw [← HM1.out]; exact if_neg e
    obtain ⟨T0, hT0⟩ : ∃ T0, m0.term = T0 := ⟨_, rfl⟩
    obtain ⟨R0, hR0⟩ : ∃ R0, m0.role = R0 := ⟨_, rfl⟩
    have r1 := DAt.c1 H2.out
    have r4 := DAt.c4 H2.out
    rw [hT0] at r1
    rw [hR0] at r4
    have hp3 := DAt.plt H2.out
    have HT := Lib.hid hT0
    have HR := Lib.hid hR0
    have HMt := Lib.hid hMt
    have HMf := Lib.hid hMf
    clear HM HM1 hMt hMf hT0 hR0 HX HFit2 y2 y4 y5 y6 y8 y9
    by_cases hr : R0 = 1
    · have b1 : ((R0 : Int) == 1) = true := by simp; omega
      cases ok with
      | true =>
        by_cases hy : tm = T0
        · have b2 : ((tm : Int) == (T0 : Int)) = true := by simp; omega
          have hrole : m0.role = 1 := HR.out.trans hr
          have HRole := Lib.hid hrole
          have HM2 : Hid (M = lead { m0 with votes := m0.votes ||| 2 ^ I }) := Lib.hid (HMt.out ⟨hrole, hy.trans HT.out.symm, rfl⟩)
          have hvb := HF0.out.votes
          have r7 := DAt.c7 H2.out hrole
          obtain ⟨V, hV⟩ : ∃ V, m0.votes = V := ⟨_, rfl⟩
          rw [hV] at r7 hvb HM2
          have HV := Lib.hid hV
          have hob := or_bit ⟨V, hvb⟩ ⟨I, hI7⟩
          (try simp only at hob)
          have hsa := shift_at V I
          obtain ⟨P2, hP2⟩ : ∃ P2, 2 ^ I = P2 := ⟨_, rfl⟩
          rw [hP2] at hob HM2
          have hPl : P2 < 128 := hP2 ▸ pow_lt hI7
          have hw2 : IntKind.u64.wrap (2 ^ I) = (P2 : Int) := by rw [show ((2 : Int) ^ I) = (P2 : Int) by rw [← hP2]; push_cast; rfl]; exact IntWalk.u64_in _ (by omega)
          have hge : (0 : Int) ≤ (I : Int) := by omega
          have hl7 : (I : Int) < 7 := by omega
          clear hr hy hrole HMt HMf HT HR hff hV
          by_cases hbit : V / P2 % 2 = 0
          · have b3 : (((V : Int) / 2 ^ I).tmod 2 == 0) = true := by rw [hsa, hP2]; simp; omega
            have hU := hob.1 hbit
            obtain ⟨U, hUe⟩ : ∃ U, V + P2 = U := ⟨_, rfl⟩
            rw [hUe] at hU
            rw [hU] at HM2
            have hUl : U < 128 := by rw [← hU]; exact Nat.or_lt_two_pow (n := 7) hvb hPl
            have hw3 : IntKind.u64.wrap ((V : Int) + (P2 : Int)) = (U : Int) := by rw [show (V : Int) + (P2 : Int) = (U : Int) by omega]; exact IntWalk.u64_in _ (by omega)
            have f2 : NdB N { m0 with votes := U } := { HF0.out with votes := hUl }
            have HF2 := Lib.hid f2
            clear hU hob hsa hP2 f2 hbit
            as_aux_lemma =>
            go_wp2_with fail
            go_quiet (fail)
            have hD := H2.out.below (below_drewN (Below.refl _ _) nq)
            have q7 := DAt.c7 hD HRole.out
            rw [HV.out] at q7
            have k7 := DAt.free hD 7
            have hpq := DAt.plt hD
            have y1q := (Below.cell (p := ⟨w.heap.size, 1, none⟩) (below_drewN (Below.refl _ _) nq) hlx).trans y1
            have hlq := Nat.lt_of_lt_of_le hlx (Below.size (below_drewN (Below.refl wc.heap.size wc) nq))
            have HD := Lib.hid hD
            have G3 := Lib.hid (G2.out.thenBelow (below_drewN (Below.refl _ _) nq))
            clear hD r1 r4 r7 y0 y1 y3 y7 hlx hp3 H2 G2
            generalize World.drewN _ nq = w4 at HD G3 q7 k7 hpq y1q hlq ⊢
            go_wp2_with fail
            go_quiet (fail)
            have hbq := below_drewN (Below.refl w4.heap.size w4) nq
            have hD := HD.out.below hbq
            have q7b := DAt.c7 hD HRole.out
            rw [HV.out] at q7b
            have k7b := DAt.free hD 7
            have hpb := DAt.plt hD
            have y1b := (hbq.cell (p := ⟨w.heap.size, 1, none⟩) hlq).trans y1q
            have HDb := Lib.hid hD
            have G4 := Lib.hid (G3.out.thenBelow hbq)
            clear hD hbq q7 k7 hpq y1q hlq HD G3
            generalize World.drewN w4 nq = w5 at HDb G4 q7b k7b hpb y1b ⊢
            obtain ⟨h6, g6⟩ := DAt.setV HDb.out HRole.out U
            have hld := dlead_any (DAt.drew h6) HF2.out (by omega)
            rw [← HM2.out] at hld
            have HLd := Lib.hid hld
            have G6 := Lib.hid ((G4.out.trans g6).thenBelow ((Below.refl _ _).drew))
            clear h6 g6 hld
            go_wp2_with fail
            go_region
            generalize (w5.setCell ⟨p, 7, none⟩ (.int .u64 (U : Int))).drew = w6 at HLd G6 ⊢
            go_wp2_with fail
            with_reducible refine HLd.out.mono ?_
            rintro e w7 ⟨rfl, hl⟩
            have HL := Lib.hid hl
            clear hl
            go_wp2
            go_end0
            exact ⟨rfl, LeftD.then G6.out HL.out⟩
          · have b3 : (((V : Int) / 2 ^ I).tmod 2 == 0) = false := by rw [hsa, hP2]; simp; omega
            have hU := hob.2 hbit
            rw [hU] at HM2
            clear hU hob hsa hP2 hbit
            as_aux_lemma =>
            go_wp2_with fail
            go_quiet (fail)
            have hD := H2.out.below (below_drewN (Below.refl _ _) nq)
            have q7 := DAt.c7 hD HRole.out
            rw [HV.out] at q7
            have k7 := DAt.free hD 7
            have hpq := DAt.plt hD
            have y1q := (Below.cell (p := ⟨w.heap.size, 1, none⟩) (below_drewN (Below.refl _ _) nq) hlx).trans y1
            have hlq := Nat.lt_of_lt_of_le hlx (Below.size (below_drewN (Below.refl wc.heap.size wc) nq))
            have HD := Lib.hid hD
            have G3 := Lib.hid (G2.out.thenBelow (below_drewN (Below.refl _ _) nq))
            clear hD r1 r4 r7 y0 y1 y3 y7 hlx hp3 H2 G2
            generalize World.drewN _ nq = w4 at HD G3 q7 k7 hpq y1q hlq ⊢
            go_wp2_with fail
            go_quiet (fail)
            have hbq := below_drewN (Below.refl w4.heap.size w4) nq
            have hD := HD.out.below hbq
            have hld := dlead_any hD HF0.out (by omega)
            have he : lead m0 = M := by rw [HM2.out, ← HV.out]
            rw [he] at hld
            have HLd := Lib.hid hld
            have G4 := Lib.hid (G3.out.thenBelow hbq)
            clear hD hbq hld he
            go_wp2_with fail
            with_reducible refine HLd.out.mono ?_
            rintro e w7 ⟨rfl, hl⟩
            have HL := Lib.hid hl
            clear hl
            go_wp2
            go_end0
            exact ⟨rfl, LeftD.then G4.out HL.out⟩
        · have b2 : ((tm : Int) == (T0 : Int)) = false := by simp; omega
          have HM2 : Hid (M = m0) := Lib.hid (HMf.out (by rintro ⟨_, e, _⟩; exact hy (e.trans HT.out)))
          clear hr hy HMt HMf
          as_aux_lemma =>
          go_wp2_with fail
          go_quiet (fail)
          go_wp2
          go_end0
          rw [HM2.out]
          exact ⟨rfl, LeftD.then G2.out (LeftD.of_below H2.out (below_drewN (Below.refl _ _) nq))⟩
      | false =>
        have HM2 : Hid (M = m0) := Lib.hid (HMf.out (by rintro ⟨_, _, e⟩; cases e))
        clear hr HMt HMf
        as_aux_lemma =>
        go_wp2_with fail
        go_quiet (fail)
        go_wp2
        go_end0
        rw [HM2.out]
        exact ⟨rfl, LeftD.then G2.out (LeftD.of_below H2.out (below_drewN (Below.refl _ _) nq))⟩
    · have b1 : ((R0 : Int) == 1) = false := by simp; omega
      have HM2 : Hid (M = m0) := Lib.hid (HMf.out (by rintro ⟨e, _⟩; exact hr (HR.out.symm.trans e)))
      clear hr HMt HMf
      as_aux_lemma =>
      go_wp2_with fail
      go_quiet (fail)
      go_wp2
      go_end0
      rw [HM2.out]
      exact ⟨rfl, LeftD.then G2.out (LeftD.of_below H2.out (below_drewN (Below.refl _ _) nq))⟩
end
end Go.Proofs.YtojmbbldehbjfaaGreat.DWq
set_option linter.unusedVariables false
namespace Go.Proofs.YtojmbbldehbjfaaGreat.DWr
open Go.RowKit Go.Proofs.YtojmbbldehbjfaaGreat.Kit Go.Proofs.YtojmbbldehbjfaaGreat.Blocks Go.Proofs.YtojmbbldehbjfaaGreat.Rlog Go.Proofs.YtojmbbldehbjfaaGreat.Ents Go.Proofs.YtojmbbldehbjfaaGreat.LogAt Go.Proofs.YtojmbbldehbjfaaGreat.Nod Go.Proofs.YtojmbbldehbjfaaGreat.NodAt Go.Proofs.YtojmbbldehbjfaaGreat.DAt
open Go.Proofs.YtojmbbldehbjfaaGreat.WalkO (hears_kind)

section
variable {B p N : Nat} {z : Seat} {m : Nd} {w : World}
theorem dreceive_any (h : DAt B w p z m) (f : NdB N m) (hN : N ≤ 700000000) (x : Msg) (a : Pl) (hx : MsgB x) (hf : Fit w (Mine p z) x a) (hes : x.es.length ≤ 100000000) :
    Calls Tryz.prog 35 #[.pointer (some ⟨p, 0, none⟩), ltV x a] w (DoesD B w p z (receive m x)) := by
  cases hh : hears m x with
  | false =>
    have e : receive m x = m := if_neg (by rw [hh]; decide)
    rw [e]
    exact DWm.dreceive_deaf h x a hh
  | true =>
    have e : receive m x = handles (heard m x) x := if_pos hh
    rw [e]
    rcases hears_kind hh with hk | hk | hk | hk | hk
    · cases hg : grants (heard m x) x with
      | false => exact DWo.dreceive_no h f hN x a hx hf hes hh hk hg
      | true => exact DWp.dreceive_yes h f hN x a hx hf hes hh hk hg
    · exact DWq.dreceive_vote h f hN x a hx hf hes hh hk
    · exact DWn.dreceive_rest h f hN x a hx hf hes hh (.inl hk)
    · exact DWn.dreceive_rest h f hN x a hx hf hes hh (.inr (.inl hk))
    · exact DWn.dreceive_rest h f hN x a hx hf hes hh (.inr (.inr hk))
end
end Go.Proofs.YtojmbbldehbjfaaGreat.DWr
