/- What the document's appended leaves, walked. -/
import Derived.Test.YtojmbbldehbjfaaGreatGD3
import Derived.Test.YtojmbbldehbjfaaGreatGY
set_option linter.unusedVariables false
namespace Go.Proofs.YtojmbbldehbjfaaGreat.DWk
open Go.RowKit Go.Proofs.YtojmbbldehbjfaaGreat.Kit Go.Proofs.YtojmbbldehbjfaaGreat.Blocks Go.Proofs.YtojmbbldehbjfaaGreat.Rlog Go.Proofs.YtojmbbldehbjfaaGreat.Ents Go.Proofs.YtojmbbldehbjfaaGreat.LogAt Go.Proofs.YtojmbbldehbjfaaGreat.Nod Go.Proofs.YtojmbbldehbjfaaGreat.NodAt Go.Proofs.YtojmbbldehbjfaaGreat.AppL Go.Proofs.YtojmbbldehbjfaaGreat.DAt Go.Proofs.YtojmbbldehbjfaaGreat.DWa Go.Proofs.YtojmbbldehbjfaaGreat.DWb Go.Proofs.YtojmbbldehbjfaaGreat.DWe Go.Proofs.YtojmbbldehbjfaaGreat.DWf Go.Proofs.YtojmbbldehbjfaaGreat.DWj
open Go.Proofs.YtojmbbldehbjfaaGreat.WalkL (logm_b merge_false)
open Go.Proofs.YtojmbbldehbjfaaGreat.Quorum (mem size need sound maj node has turn change)

section
variable {B p N : Nat} {z : Seat} {m : Nd} {w : World}
/-- The document's log takes entries that came. -/
theorem dlog_merge (h : DAt B w p z m) (f : NdB N m) (hN : N ≤ 800000000) (x : Msg) (a : Pl) (hx : MsgB x) (hf : Fit w (Mine p z) x a) (hix : x.ix ≤ 4611686018427387904) (hes : x.es.length ≤ 100000000) {l' : List Ent} {b : Bool} {g' : G} (hr : merge m.g x.ix x.pv x.es = ((l', b), g')) :
    Calls Tryz.prog 105 #[.pointer (some ⟨z.q, 0, none⟩), .int .u64 (x.ix : Int), .int .u64 (x.pv : Int), .slice a.A a.n a.c] w fun e w' =>
      ∃ A c v', e = .returned (.tuple #[.slice A l'.length c, .bool b]) ∧ RE w' w'.heap.size A l'.length l' ∧ l'.length ≤ c ∧ c ≤ 9223372036854775807 ∧ DAt B w' p { z with vg := v' } { m with g := g' } ∧ Grow p z { z with vg := v' } w w' := by
  obtain ⟨vs, nx, mt, fr, h⟩ := h
  have hge := f.es
  have hn := RE.len hf.re
  have := RefI.rmerge_any h.log f.fine a.A a.n a.c x.ix x.pv x.es hf.re (fun hn ad e hk => hf.off hn ad e (.inr (.inl hk))) hx.es hf.fits hf.max hx.ix (fun _ => by omega)
  rw [hr] at this
  refine this.mono ?_
  rintro e w' ⟨A, c, rfl, h1, h2, h3, hl, ho⟩
  obtain ⟨v', h', g''⟩ := NodeAt.logged h hl
  exact ⟨A, c, v', rfl, h1, h2, h3, ⟨vs, nx, mt, ⟨fr.v, fr.n, fr.t, fr.nl, fr.ml⟩, h'⟩, g''⟩
theorem dlast_any (h : DAt B w p z m) : Calls Tryz.prog 34 #[.pointer (some ⟨z.q, 0, none⟩)] w fun e w' => e = .returned (.tuple #[.int .u64 ((last m.g).1 : Int), .int .u64 ((last m.g).2 : Int)]) ∧ Below w.heap.size w w' := by
  obtain ⟨vs, nx, mt, fr, h⟩ := h
  exact RefB.rlast_any h.log
theorem DAt.setCommit (h : DAt B w p z m) (C : Nat) : w.frozen? ⟨p, 6, none⟩ = false ∧ DAt B (w.setCell ⟨p, 6, none⟩ (.int .u64 (C : Int))) p z { m with commit := C } ∧ Grow p z z w (w.setCell ⟨p, 6, none⟩ (.int .u64 (C : Int))) := by
  obtain ⟨vs, nx, mt, fr, h⟩ := h
  obtain ⟨h1, g1⟩ := DN.setTo h 6 (.int .u64 (C : Int)) { m with commit := C } vs nx mt rfl rfl rfl rfl
  exact ⟨NodeAt.free h 6, ⟨vs, nx, mt, ⟨fr.v, fr.n, fr.t, fr.nl, fr.ml⟩, h1⟩, g1⟩
/-- Its leader is known, its clock set anew. -/
theorem DAt.hears (h : DAt B w p z m) (F : Int) : ∃ a b, w.cell? ⟨p, 5, none⟩ = some (.int .i64 a) ∧ w.frozen? ⟨p, 5, none⟩ = false ∧ w.cell? ⟨p, 25, none⟩ = some (.bool b) ∧ w.frozen? ⟨p, 25, none⟩ = false ∧ p < w.heap.size ∧
    DAt B ((w.setCell ⟨p, 5, none⟩ (.int .i64 F)).setCell ⟨p, 25, none⟩ (.bool true)) p z { m with leader := F, reset := true } ∧ Grow p z z w ((w.setCell ⟨p, 5, none⟩ (.int .i64 F)).setCell ⟨p, 25, none⟩ (.bool true)) := by
  obtain ⟨vs, nx, mt, fr, h⟩ := h
  obtain ⟨h1, g1⟩ := DN.setTo h 5 (.int .i64 F) { m with leader := F } vs nx mt rfl rfl rfl rfl
  obtain ⟨h2, g2⟩ := DN.setTo h1 25 (.bool true) { m with leader := F, reset := true } vs nx mt (by
    rw [show (25 : Nat) = 22 + 3 from rfl, dcs_set_tl fr.nl fr.ml 3]; rfl) rfl rfl rfl
  exact ⟨_, _, DN.c5 h, NodeAt.free h 5, DN.c25 h fr, NodeAt.free h 25, h.plt, ⟨vs, nx, mt, ⟨fr.v, fr.n, fr.t, fr.nl, fr.ml⟩, h2⟩, g1.trans g2⟩
set_option maxRecDepth 100000 in
set_option maxHeartbeats 8000000 in
theorem dnews_any (h : DAt B w p z m) (f : NdB N m) (hN : N ≤ 700000000) (x : Msg) (a : Pl) (hx : MsgB x) (hf : Fit w (Mine p z) x a) (hn : node x.f = true) (hk : x.k = 3 ∨ x.k = 5) (hix : x.ix ≤ 4611686018427387904) (hes : x.es.length ≤ 100000000) :
    Calls Tryz.prog 70 #[.pointer (some ⟨p, 0, none⟩), ltV x a] w (DoesD B w p z (writtenN m x)) := by
  have hba : Below w.heap.size w (w.alloc (.cells (ltCs x a).toArray 47)) := (Below.refl _ _).alloc (Nat.le_refl _) _
  have hbx := LBox.new w x a
  have hrp := fun W z' (h' : DAt B W p z' m) => dreply_any h' f (by omega) x.f 0 false
  have hfo := fun W (hb : Below w.heap.size w W) => dfollow_any (h.below hb) f hx.tm
  have hof := hearsOf_b f hx hn
  have hmg0 := fun W z' (h' : DAt B W p z' (hearsOf m x)) (hf' : Fit W (Mine p z') x a) {l' : List Ent} {b : Bool} {g' : G} (hr : merge (hearsOf m x).g x.ix x.pv x.es = ((l', b), g')) => dlog_merge h' hof (by omega) x a hx hf' hix hes hr
  have hly := fun W z' (h' : DAt B W p z' (hearsOf m x)) => dlay_any h' hof hN x a hx hix
  have hM0 : writtenN m x = if x.tm < m.term then reply m x.f 0 false else if m.role = 2 then m else if x.k = 3 then merged (hearsOf m x) x else laysDown (hearsOf m x) x := rfl
  obtain ⟨M, hM⟩ : ∃ M, writtenN m x = M := ⟨_, rfl⟩
  rw [hM] at hM0 ⊢
  have hho : hearsOf m x = { followN m x.tm with leader := x.f, reset := true } := rfl
  have f1 := logm_b hof hx hix
  have f2 := laid_b hof hx hix
  obtain ⟨m1, hm1⟩ : ∃ m1, hearsOf m x = m1 := ⟨_, rfl⟩
  rw [hm1] at hM0 hmg0 hly hho hof f1 f2
  have hrp1 := fun W z' (h' : DAt B W p z' m1) (i : Nat) => dreply_any h' hof (by omega) x.f i false
  have hmF : (merge m1.g x.ix x.pv x.es).1.2 = false → (merge m1.g x.ix x.pv x.es).2 = m1.g := merge_false
  have hMw : wild x = true → merged m1 x = m1 := fun e => by unfold merged; rw [if_pos e]
  have hMf : wild x = false → (merge m1.g x.ix x.pv x.es).1.2 = false → merged m1 x = reply m1 x.f (before m1 x.ix) false := fun e1 e2 => by unfold merged; rw [if_neg (by rw [e1]; simp), if_neg (by rw [e2]; simp)]
  have hMt : wild x = false → (merge m1.g x.ix x.pv x.es).1.2 = true → merged m1 x = reply (laid m1 x) x.f (aheadN x) true := fun e1 e2 => by unfold merged; rw [if_neg (by rw [e1]; simp), if_pos e2]
  have hlaid : laid m1 x = { m1 with g := (merge m1.g x.ix x.pv x.es).2, kept := keepL m1.kept (merge m1.g x.ix x.pv x.es).1.1, commit := max m1.commit (min x.cm (aheadN x)) } := rfl
  have hml := merge_len m1.g x.ix x.pv x.es
  have hwild : wild x = x.es.any fun e => decide (x.tm < e.term) := rfl
  have hah : aheadN x = a.n + x.ix := by unfold aheadN; have := RE.len hf.re; omega
  have hbf : before m1 x.ix = if x.ix = 0 ∨ x.ix - 1 ≤ m1.commit then m1.commit else min (x.ix - 1) (last m1.g).1 := rfl
  have h63 := hf.max
  have hfits := hf.fits
  have hln := RE.len hf.re
  have hcmb := hx.cm
  have hixb := hx.ix
  obtain ⟨⟨⟨l', b⟩, g'⟩, hRm⟩ : ∃ R, merge m1.g x.ix x.pv x.es = R := ⟨_, rfl⟩
  rw [hRm] at hMf hMt f1 hlaid hml hmF
  simp only at hMf hMt f1 hlaid hml hmF
  have hmg := fun W z' (h' : DAt B W p z' m1) (hf' : Fit W (Mine p z') x a) => hmg0 W z' h' hf' hRm
  clear hmg0
  obtain ⟨m2, hm2⟩ : ∃ m2, laid m1 x = m2 := ⟨_, rfl⟩
  rw [hm2] at hMt f2 hlaid
  rw [hah] at hMt hlaid
  rw [hwild] at hMw hMf hMt
  obtain ⟨m0, hm0⟩ : ∃ m0, followN m x.tm = m0 := ⟨_, rfl⟩
  rw [hm0] at hho
  simp only [hm0] at hfo
  obtain ⟨Y, hY⟩ : ∃ Y, m.term = Y := ⟨_, rfl⟩
  obtain ⟨R, hR⟩ : ∃ R, m.role = R := ⟨_, rfl⟩
  rw [hY, hR] at hM0
  unfold ltV at hly
  have H := Lib.hid h
  have HF := Lib.hid hf
  have HRp := Lib.hid hrp
  have HRp1 := Lib.hid hrp1
  have HFo := Lib.hid hfo
  have HMg := Lib.hid hmg
  have HLy := Lib.hid hly
  have HM := Lib.hid hM0
  have HHo := Lib.hid hho
  have HY := Lib.hid hY
  have HR := Lib.hid hR
  have F1 := Lib.hid f1
  have F2 := Lib.hid f2
  have HMw := Lib.hid hMw
  have HMf := Lib.hid hMf
  have HMt := Lib.hid hMt
  have HLaid := Lib.hid hlaid
  have HmF := Lib.hid hmF
  have HBf := Lib.hid hbf
  have HK := Lib.hid hk
  clear h f hrp hrp1 hfo hof hmg hly hM0 hM hho hm1 hm0 hY hR hx hf hn f1 f2 hMw hMf hMt hlaid hmF hbf hRm hm2 hwild hah hk
  obtain ⟨kd, fr, tt, tm, ix, pv, cm, ok, es, d⟩ := x
  obtain ⟨A, n, c⟩ := a
  unfold ltV
  simp only [ltCs] at hba hbx HF HRp HRp1 HFo HMg HLy HM HHo hix HMw HMf HMt HLaid HBf HK h63 hfits hln hcmb hixb hes ⊢
  have x0 := hbx.c0
  have x1 := hbx.c1
  have x2 := hbx.c2
  have x3 := hbx.c3
  have x4 := hbx.c4
  have x5 := hbx.c5
  have x6 := hbx.c6
  have x7 := hbx.c7
  have x8 := hbx.c8
  have x9 := hbx.c9
  have hlt := hbx.lt
  obtain ⟨w0, hw0⟩ : ∃ w0, w.alloc (.cells [.int .i64 kd, .int .i64 fr, .int .i64 tt, .int .u64 (tm : Int), .int .u64 (ix : Int), .int .u64 (pv : Int), .int .u64 (cm : Int), .bool ok, .slice A n c, .string d].toArray 47) = w0 := ⟨_, rfl⟩
  rw [hw0] at hba hbx x0 x1 x2 x3 x4 x5 x6 x7 x8 x9 hlt
  simp only at x0 x1 x2 x3 x4 x5 x6 x7 x8 x9
  have HW0 := Lib.hid hw0
  have HBA := Lib.hid hba
  clear hw0
  have h0 := H.out.below HBA.out
  have c1 := DAt.c1 h0
  have c4 := DAt.c4 h0
  rw [HY.out] at c1
  rw [HR.out] at c4
  have hp0 := DAt.plt h0
  have hno : ¬ Mine p z w.heap.size := fun e => by have := (DAt.mine_lt H.out e).2; omega
  have HNo := Lib.hid hno
  clear h0 hba hbx hno
  by_cases hlt2 : tm < Y
  · have hdt : decide ((tm : Int) < (Y : Int)) = true := by simp; omega
    have HM2 : Hid (M = reply m fr 0 false) := Lib.hid (by rw [HM.out, if_pos hlt2])
    clear HM HMg HLy HMw HMf HMt HLaid HBf
    as_aux_lemma =>
    go_enter Tryz.func70, Tryz.ntmps70
    go_wp2_with fail
    rw [HW0.out]
    go_quiet (fail)
    have hbq : Below w.heap.size w (w0.drewN nq) := below_drewN HBA.out nq
    have y1 : (w0.drewN nq).cell? ⟨w.heap.size, 1, none⟩ = some (.int .i64 fr) := x1
    generalize w0.drewN nq = wq at hbq y1 ⊢
    have hr : Calls Tryz.prog 67 #[.pointer (some ⟨p, 0, none⟩), .agg #[.int .i64 4, .int .i64 0, .int .i64 fr, .int .u64 0, .int .u64 0, .int .u64 0, .int .u64 0, .bool false, .slice none 0 0, .string ⟨#[]⟩]] wq (DoesD B wq p z M) := by
      rw [HM2.out]
      exact HRp.out wq z (H.out.below hbq)
    have HR2 := Lib.hid hr
    have HBQ := Lib.hid hbq
    clear hr hbq
    go_wp2_with fail
    with_reducible refine HR2.out.mono ?_
    rintro e w2 ⟨rfl, hl⟩
    have HL := Lib.hid hl
    clear hl
    go_wp2
    (try simp only [Exit.inBlock, Exit.then]); refine bodyPost_ret (results_none rfl _ _ _) rfl ?_
    exact ⟨rfl, LeftD.afterBelow HBQ.out HL.out⟩
  · have hdt : decide ((tm : Int) < (Y : Int)) = false := by simp; omega
    by_cases hr2 : R = 2
    · have HM2 : Hid (M = m) := Lib.hid (by rw [HM.out, if_neg hlt2, if_pos hr2])
      have hrd : ((R : Int) == 2) = true := by rw [hr2]; rfl
      clear HM HMg HLy HMw HMf HMt HLaid HBf
      as_aux_lemma =>
      go_enter Tryz.func70, Tryz.ntmps70
      go_wp2_with fail
      rw [HW0.out]
      go_quiet (fail)
      have hbq : Below w.heap.size w (w0.drewN nq) := below_drewN HBA.out nq
      have y4 : (w0.drewN nq).cell? ⟨p, 4, none⟩ = some (.int .i64 (R : Int)) := c4
      generalize w0.drewN nq = wq at hbq y4 ⊢
      go_wp2
      (try simp only [Exit.inBlock, Exit.then]); refine bodyPost_ret (results_none rfl _ _ _) rfl ?_
      rw [HM2.out]
      exact ⟨rfl, LeftD.of_below H.out hbq⟩
    · have HM2 : Hid (M = if kd = 3 then merged m1 ⟨kd, fr, tt, tm, ix, pv, cm, ok, es, d⟩ else laysDown m1 ⟨kd, fr, tt, tm, ix, pv, cm, ok, es, d⟩) := Lib.hid (by rw [HM.out, if_neg hlt2, if_neg hr2])
      have hrd : ((R : Int) == 2) = false := by simp; omega
      clear HM
      go_enter Tryz.func70, Tryz.ntmps70
      go_wp2_with fail
      rw [HW0.out]
      go_quiet (fail)
      have hbq : Below w.heap.size w (w0.drewN nq) := below_drewN HBA.out nq
      have y4 : (w0.drewN nq).cell? ⟨p, 4, none⟩ = some (.int .i64 (R : Int)) := c4
      have K0 : Hid (∀ i u, w0.cell? ⟨w.heap.size, i, none⟩ = some u → (w0.drewN nq).cell? ⟨w.heap.size, i, none⟩ = some u) := fun i u hu => hu
      have y3 := K0.out _ _ x3
      have hlq : w.heap.size < (w0.drewN nq).heap.size := hlt
      generalize w0.drewN nq = wq at hbq y4 K0 y3 hlq ⊢
      have HBQ := Lib.hid hbq
      clear hbq c1 c4
      go_wp2_with fail
      with_reducible refine (HFo.out _ HBQ.out).mono ?_
      rintro e w2 ⟨rfl, z1, h1, g1⟩
      have K1 : Hid (∀ i u, w0.cell? ⟨w.heap.size, i, none⟩ = some u → w2.cell? ⟨w.heap.size, i, none⟩ = some u) := fun i u hu => (g1.only.cell (p := ⟨w.heap.size, i, none⟩) hlq HNo.out).trans (K0.out i u hu)
      have hN1 := WalkG.Grow.out g1 HNo.out hlq
      have hl2 : w.heap.size < w2.heap.size := Nat.lt_of_lt_of_le hlq g1.size
      have G1 := Lib.hid (Grow.afterBelow HBQ.out g1)
      obtain ⟨oa, ob, d5, k5, d25, k25, hp2, h3, g3⟩ := DAt.hears h1 fr
      have z1A := K1.out _ _ x1
      have he : ({ m0 with leader := fr, reset := true } : Nd) = m1 := HHo.out.symm
      rw [he] at h3
      have hnp : ¬ w.heap.size = p := fun e => HNo.out (.inl e)
      have hnp2 : ¬ p = w.heap.size := fun e => hnp e.symm
      have K3 : Hid (∀ i u, w0.cell? ⟨w.heap.size, i, none⟩ = some u → ((w2.setCell ⟨p, 5, none⟩ (.int .i64 fr)).setCell ⟨p, 25, none⟩ (.bool true)).cell? ⟨w.heap.size, i, none⟩ = some u) := fun i u hu => (g3.only.cell (p := ⟨w.heap.size, i, none⟩) hl2 hN1).trans (K1.out i u hu)
      have hl3 : w.heap.size < ((w2.setCell ⟨p, 5, none⟩ (.int .i64 fr)).setCell ⟨p, 25, none⟩ (.bool true)).heap.size := Nat.lt_of_lt_of_le hl2 g3.size
      have hN3 : ¬ Mine p z1 w.heap.size := hN1
      have H3 := Lib.hid h3
      have G3 := Lib.hid (G1.out.trans g3)
      have hfit := G3.out.fit HF.out
      have HFit := Lib.hid hfit
      clear h1 h3 g1 g3 hfit he
      generalize hw3 : (w2.setCell ⟨p, 5, none⟩ (.int .i64 fr)).setCell ⟨p, 25, none⟩ (.bool true) = w3 at K3 H3 G3 HFit hl3
      have v0 := K3.out _ _ x0
      have v1 := K3.out _ _ x1
      have v2 := K3.out _ _ x2
      have v3 := K3.out _ _ x3
      have v4 := K3.out _ _ x4
      have v5 := K3.out _ _ x5
      have v6 := K3.out _ _ x6
      have v7 := K3.out _ _ x7
      have v8 := K3.out _ _ x8
      have v9 := K3.out _ _ x9
      clear x0 x1 x2 x3 x4 x5 x6 x7 x8 x9 y3 y4 hrd hdt hlt2 hr2
      by_cases hk3 : kd = 3
      · have hkd : (kd == 5) = false := by rw [hk3]; rfl
        have HM3 : Hid (M = merged m1 ⟨kd, fr, tt, tm, ix, pv, cm, ok, es, d⟩) := Lib.hid (by rw [HM2.out, if_pos hk3])
        rw [← HM3.out] at HMw HMf HMt
        clear HM2 HM3 hk3 HLy HRp HFo HK K0 K1 K3 G1 HF HBQ HBA
        have hwl := HMw.out
        go_wp2
        go_loopw [4] (fun i wr => ∃ k : Nat, k ≤ n ∧ i = .int .i64 (k : Int) ∧ Hid ((es.take k).any (fun e => decide (tm < e.term)) = false) ∧ Below w3.heap.size w3 wr) (fun i _ => n - (intOf i).toNat)
        case atStart => exact ⟨0, by omega, rfl, Lib.hid (by simp), Below.refl _ _⟩
        case round =>
          obtain ⟨k, hk, rfl, hno, hbw⟩ := hrel
          have u8 := (hbw.cell (p := ⟨w.heap.size, 8, none⟩) hl3).trans v8
          have u3 := (hbw.cell (p := ⟨w.heap.size, 3, none⟩) hl3).trans v3
          by_cases hk' : k < n
          · have hrr := Kit.Reads.below (HFit.out.re) hbw
            obtain ⟨b', o', e, hA, hb', he, hfour⟩ := RE.at_ hrr hk'
            simp only at hA
            subst hA
            have y0 := hfour.c0
            have HT : Hid (es.take (k + 1) = es.take k ++ [e]) := Lib.hid (take_snoc es k _ he)
            have HE := Lib.hid he
            have HBW := Lib.hid hbw
            by_cases hlate : tm < e.term
            · have hM1 := HMw.out (List.any_eq_true.mpr ⟨e, List.mem_of_getElem? he, decide_eq_true hlate⟩)
              have HM1 := Lib.hid hM1
              obtain ⟨etm, eix, ekd, ed⟩ := e
              simp only at y0 hlate
              have hdl : decide ((tm : Int) < (etm : Int)) = true := by simp; omega
              clear hrr he hfour hM1 hbw
              go_wp2_with fail
              go_quiet (fail)
              go_wp2
              (try simp only [Exit.inBlock, Exit.then]); refine bodyPost_ret (results_none rfl _ _ _) rfl ?_
              rw [HM1.out]
              exact ⟨rfl, LeftD.then G3.out (LeftD.of_below H3.out (below_drewN HBW.out nq))⟩
            · have HQ : Hid (decide (tm < e.term) = false) := Lib.hid (decide_eq_false hlate)
              obtain ⟨etm, eix, ekd, ed⟩ := e
              simp only at y0 hlate
              have hdl : decide ((tm : Int) < (etm : Int)) = false := by simp; omega
              clear hrr he hfour hbw
              go_wp2_with fail
              go_quiet (fail)
              go_wp2
              go_roundw
              case rel =>
                refine ⟨k + 1, by omega, by go_num, Lib.hid ?_, below_drewN HBW.out nq⟩
                rw [HT.out, List.any_append, hno.out]
                simpa using HQ.out
              case measure => simp [intOf]; omega
          · obtain rfl : k = n := by omega
            have hall : es.take k = es := List.take_of_length_le (by have : es.length = k := hln; omega)
            have hno2 := hno.out
            rw [hall] at hno2
            have hmf := HMf.out hno2
            have hmt := HMt.out hno2
            have HMf2 := Lib.hid hmf
            have HMt2 := Lib.hid hmt
            have hbd := hbw.drew
            have hmg := HMg.out wr.drew z1 (H3.out.below hbd) (HFit.out.below hbd)
            have HMg2 := Lib.hid hmg
            have u4 := (hbw.cell (p := ⟨w.heap.size, 4, none⟩) hl3).trans v4
            have u5 := (hbw.cell (p := ⟨w.heap.size, 5, none⟩) hl3).trans v5
            have u1 := (hbw.cell (p := ⟨w.heap.size, 1, none⟩) hl3).trans v1
            have u6 := (hbw.cell (p := ⟨w.heap.size, 6, none⟩) hl3).trans v6
            have q3 := DAt.c3 (H3.out.below hbw)
            have hlr : w.heap.size < wr.heap.size := Nat.lt_of_lt_of_le hl3 hbw.size
            have G3r := Lib.hid (G3.out.thenBelow hbd)
            clear hmf hmt hmg hno2 hall HMf HMt HMw HMg v0 v1 v2 v3 v4 v5 v6 v7 v8 v9 G3 d5 k5 d25 k25 hw3 z1A u3 hwl
            go_wp2_with fail
            go_region_held3 (fun W => W.cell? ⟨p, 3, none⟩ = some (.pointer (some ⟨z1.q, 0, none⟩)) ∧ W.cell? ⟨w.heap.size, 4, none⟩ = some (.int .u64 (ix : Int)) ∧ W.cell? ⟨w.heap.size, 5, none⟩ = some (.int .u64 (pv : Int)) ∧ W.cell? ⟨w.heap.size, 8, none⟩ = some (.slice A k c))
              (first
                | exact ⟨q3, u4, u5, u8⟩
                | (with_reducible exact HKA.out))
              (first
                | (go_at_call 105
                   with_reducible refine HMg2.out.mono ?_
                   rintro e wA ⟨A2, c2, vg2, rfl, r1, r2, r3, h2, g2⟩
                   have K2 : Hid (∀ i u, wr.cell? ⟨w.heap.size, i, none⟩ = some u → wA.cell? ⟨w.heap.size, i, none⟩ = some u) := fun i u hu => (g2.only.cell (p := ⟨w.heap.size, i, none⟩) hlr hN3).trans hu
                   have HKA := Lib.hid (And.intro (DAt.c3 h2) (And.intro (K2.out _ _ u4) (And.intro (K2.out _ _ u5) (K2.out _ _ u8))))
                   have H2 := Lib.hid h2
                   have G2 := Lib.hid (G3r.out.trans g2)
                   have HN2 := Lib.hid (WalkG.Grow.out g2 hN3 hlr)
                   have R1 := Lib.hid r1
                   have hlA : w.heap.size < wA.heap.size := Nat.lt_of_lt_of_le hlr g2.size
                   clear h2 g2 r1))
            have z1A := K2.out _ _ u1
            have z4A := K2.out _ _ u4
            have z6A := K2.out _ _ u6
            have z8A := K2.out _ _ u8
            clear u1 u4 u5 u6 u8 HMg2 HFit HKA q3 H3
            cases b with
            | false =>
              have hM2 := HMf2.out rfl
              have hg := HmF.out rfl
              have h3 : DAt B wA p { q := z1.q, vg := vg2, vk := z1.vk, vo := z1.vo, Z := z1.Z, X := z1.X } m1 := by have := H2.out; rw [hg] at this; exact this
              have HM2 := Lib.hid hM2
              have hlast := dlast_any h3
              obtain ⟨C, hC⟩ : ∃ C, m1.commit = C := ⟨_, rfl⟩
              obtain ⟨LI, hLI⟩ : ∃ LI, (last m1.g).1 = LI := ⟨_, rfl⟩
              obtain ⟨LT, hLT⟩ : ∃ LT, (last m1.g).2 = LT := ⟨_, rfl⟩
              rw [hLI, hLT] at hlast
              have hbf := HBf.out
              rw [hC, hLI] at hbf
              have q3 := DAt.c3 h3
              have HC := Lib.hid hC
              have HLast := Lib.hid hlast
              have H3 := Lib.hid h3
              obtain ⟨BF, hBF⟩ : ∃ BF, before m1 ix = BF := ⟨_, rfl⟩
              rw [hBF] at hbf
              have HBF := Lib.hid hBF
              have HBf2 := Lib.hid hbf
              clear hM2 hg h3 hlast hC hLI hLT hbf hBF HBf HMf2 HMt2 HLaid F1 F2 H2
              go_wp2_with fail
              with_reducible refine HLast.out.mono ?_
              rintro e wB ⟨rfl, hbB⟩
              have h4 := H3.out.below hbB
              have q6 := DAt.c6 h4
              rw [HC.out] at q6
              have t1 := (hbB.cell (p := ⟨w.heap.size, 1, none⟩) hlA).trans z1A
              have t4 := (hbB.cell (p := ⟨w.heap.size, 4, none⟩) hlA).trans z4A
              have hr : ∀ nq i, i = BF → Calls Tryz.prog 67 #[.pointer (some ⟨p, 0, none⟩), .agg #[.int .i64 4, .int .i64 0, .int .i64 fr, .int .u64 0, .int .u64 (i : Int), .int .u64 0, .int .u64 0, .bool false, .slice none 0 0, .string ⟨#[]⟩]] (wB.drewN nq) (DoesD B (wB.drewN nq) p { q := z1.q, vg := vg2, vk := z1.vk, vo := z1.vo, Z := z1.Z, X := z1.X } M) := fun nq i hi => by
                rw [HM2.out, hi, ← HBF.out]
                exact HRp1.out _ _ (H3.out.below (below_drewN hbB nq)) _
              have HR2 := Lib.hid hr
              have G4 : Hid (∀ nq, Grow p z { q := z1.q, vg := vg2, vk := z1.vk, vo := z1.vo, Z := z1.Z, X := z1.X } w (wB.drewN nq)) := fun nq => G2.out.thenBelow (below_drewN hbB nq)
              clear h4 hbB hr z1A z4A z6A z8A q3
              by_cases hi0 : ix = 0
              · have hd0 : decide ((0 : Int) < (ix : Int)) = false := by simp; omega
                have hBC : C = BF := by rw [HBf2.out, if_pos (.inl hi0)]
                have HS := fun nq => Lib.hid (HR2.out nq C hBC)
                clear HR2 HBf2 hBC
                go_wp2_with fail
                go_quiet (fail)
                have HS2 := HS nq
                have G5 := Lib.hid (G4.out nq)
                clear HS G4
                go_wp2_with fail
                with_reducible refine HS2.out.mono ?_
                rintro e w5 ⟨rfl, hl⟩
                have HL := Lib.hid hl
                clear hl
                go_wp2
                (try simp only [Exit.inBlock, Exit.then]); refine bodyPost_ret (results_none rfl _ _ _) rfl ?_
                exact ⟨rfl, LeftD.then G5.out HL.out⟩
              · obtain ⟨J, hJ⟩ : ∃ J, ix - 1 = J := ⟨_, rfl⟩
                have hd0 : decide ((0 : Int) < (ix : Int)) = true := by simp; omega
                have hpos : 0 < ix := by omega
                have hposI : (0 : Int) < (ix : Int) := by omega
                have hw1 : IntKind.u64.wrap ((ix : Int) - 1) = (J : Int) := by rw [show (ix : Int) - 1 = (J : Int) by omega]; exact IntWalk.u64_in _ (by omega)
                by_cases hjc : C < J
                · have hd1 : decide ((C : Int) < (J : Int)) = true := by simp; omega
                  have hBC : min J LI = BF := by rw [HBf2.out, if_neg (by rintro (e | e); exact hi0 e; omega), hJ]
                  have hmin : min (J : Int) (LI : Int) = ((min J LI : Nat) : Int) := by omega
                  obtain ⟨mn, hmn⟩ : ∃ mn, min J LI = mn := ⟨_, rfl⟩
                  rw [hmn] at hBC hmin
                  have HS := fun nq => Lib.hid (HR2.out nq mn hBC)
                  clear HR2 HBf2 hBC hmn
                  go_wp2_with fail
                  go_quiet (fail)
                  have HS2 := HS nq
                  have G5 := Lib.hid (G4.out nq)
                  clear HS G4
                  go_wp2_with fail
                  with_reducible refine HS2.out.mono ?_
                  rintro e w5 ⟨rfl, hl⟩
                  have HL := Lib.hid hl
                  clear hl
                  go_wp2
                  (try simp only [Exit.inBlock, Exit.then]); refine bodyPost_ret (results_none rfl _ _ _) rfl ?_
                  exact ⟨rfl, LeftD.then G5.out HL.out⟩
                · have hd1 : decide ((C : Int) < (J : Int)) = false := by simp; omega
                  have hBC : C = BF := by rw [HBf2.out, if_pos (.inr (by omega))]
                  have HS := fun nq => Lib.hid (HR2.out nq C hBC)
                  clear HR2 HBf2 hBC
                  go_wp2_with fail
                  go_quiet (fail)
                  have HS2 := HS nq
                  have G5 := Lib.hid (G4.out nq)
                  clear HS G4
                  go_wp2_with fail
                  with_reducible refine HS2.out.mono ?_
                  rintro e w5 ⟨rfl, hl⟩
                  have HL := Lib.hid hl
                  clear hl
                  go_wp2
                  (try simp only [Exit.inBlock, Exit.then]); refine bodyPost_ret (results_none rfl _ _ _) rfl ?_
                  exact ⟨rfl, LeftD.then G5.out HL.out⟩
            | true =>
              have hM2 := HMt2.out rfl
              have hkp := dkeep_any H2.out F1.out (by omega) A2 c2 l' R1.out (by omega)
              have HM2 := Lib.hid hM2
              have HKp := Lib.hid hkp
              obtain ⟨C, hC⟩ : ∃ C, m1.commit = C := ⟨_, rfl⟩
              have hCv : ∀ z' W, DAt B W p z' (keep { m1 with g := g' } l') → W.cell? ⟨p, 6, none⟩ = some (.int .u64 (C : Int)) := fun z' W hp => by
                have := DAt.c6 hp
                rw [show (keep { m1 with g := g' } l').commit = C from hC] at this
                exact this
              have HCv := Lib.hid hCv
              have HCe := Lib.hid hC
              obtain ⟨HH, hHH⟩ : ∃ HH, k + ix = HH := ⟨_, rfl⟩
              have hHb : HH < 18446744073709551616 := by have : es.length = k := hln; omega
              have hsum : IntKind.u64.wrap ((ix : Int) + (k : Int)) = (HH : Int) := by rw [show (ix : Int) + (k : Int) = (HH : Int) by omega]; exact IntWalk.u64_in _ (by omega)
              have hcv : IntKind.u64.wrap (k : Int) = (k : Int) := IntWalk.u64_in _ (by have : es.length = k := hln; omega)
              obtain ⟨mn, hmn⟩ : ∃ mn, min cm HH = mn := ⟨_, rfl⟩
              obtain ⟨mx, hmx⟩ : ∃ mx, max C mn = mx := ⟨_, rfl⟩
              have hmin : min (cm : Int) (HH : Int) = (mn : Int) := by omega
              have hmax : max (C : Int) (mn : Int) = (mx : Int) := by omega
              have hm2e : m2 = { keep { m1 with g := g' } l' with commit := mx } := by rw [HLaid.out, hHH, hC, hmn, hmx]; rfl
              have HM2e := Lib.hid hm2e
              have HHH := Lib.hid hHH
              clear hM2 hkp hCv hC hHH hmn hmx hm2e hHb HBf HMf2 HMt2 HLaid HRp1 H2
              go_wp2_with fail
              with_reducible refine HKp.out.mono ?_
              rintro e wB ⟨rfl, z3, h3, g3⟩
              have K3 : Hid (∀ i u, wA.cell? ⟨w.heap.size, i, none⟩ = some u → wB.cell? ⟨w.heap.size, i, none⟩ = some u) := fun i u hu => (g3.only.cell (p := ⟨w.heap.size, i, none⟩) hlA HN2.out).trans hu
              have z1B := K3.out _ _ z1A
              have z4B := K3.out _ _ z4A
              have z6B := K3.out _ _ z6A
              have z8B := K3.out _ _ z8A
              have q6 := HCv.out _ _ h3
              have hpB := DAt.plt h3
              have hN3' := WalkG.Grow.out g3 HN2.out hlA
              have hlB : w.heap.size < wB.heap.size := Nat.lt_of_lt_of_le hlA g3.size
              obtain ⟨k6, h4, g4⟩ := DAt.setCommit h3 mx
              rw [← HM2e.out] at h4
              have H4 := Lib.hid (DAt.drew h4)
              have G4 := Lib.hid (((G2.out.trans g3).trans g4).thenBelow ((Below.refl _ _).drew))
              have z1C : (wB.setCell ⟨p, 6, none⟩ (.int .u64 (mx : Int))).drew.cell? ⟨w.heap.size, 1, none⟩ = some (.int .i64 fr) := (g4.only.cell (p := ⟨w.heap.size, 1, none⟩) hlB hN3').trans z1B
              clear h3 g3 h4 g4 z1A z4A z6A z8A
              go_wp2_with fail
              go_region
              generalize (wB.setCell ⟨p, 6, none⟩ (.int .u64 (mx : Int))).drew = wE at H4 G4 z1C ⊢
              have hrp2 := dreply_any H4.out F2.out (by omega) fr HH true
              rw [← HHH.out, ← HM2.out] at hrp2
              have hrp2 : Calls Tryz.prog 67 #[.pointer (some ⟨p, 0, none⟩), .agg #[.int .i64 4, .int .i64 0, .int .i64 fr, .int .u64 0, .int .u64 (HH : Int), .int .u64 0, .int .u64 0, .bool true, .slice none 0 0, .string ⟨#[]⟩]] wE (DoesD B wE p z3 M) := by rw [← HHH.out]; exact hrp2
              have HRp2 := Lib.hid hrp2
              clear hrp2
              go_wp2_with fail
              with_reducible refine HRp2.out.mono ?_
              rintro e wF ⟨rfl, hl⟩
              have HL := Lib.hid hl
              clear hl
              go_wp2
              go_end0
              exact ⟨rfl, LeftD.then G4.out HL.out⟩
      · have hkd : (kd == 5) = true := by have := HK.out.resolve_left hk3; rw [this]; rfl
        have hmm := HLy.out w3 z1 H3.out
        have HM3 : Hid (M = laysDown m1 ⟨kd, fr, tt, tm, ix, pv, cm, ok, es, d⟩) := Lib.hid (by rw [HM2.out, if_neg hk3])
        rw [← HM3.out] at hmm
        have HMm := Lib.hid hmm
        clear hmm HM2 HM3 hk3 HMg HMw HMf HMt HLaid HBf HRp HRp1 HFo K0 K1 K3
        go_wp2_with fail
        with_reducible refine HMm.out.mono ?_
        rintro e w5 ⟨rfl, hl⟩
        have HL := Lib.hid hl
        clear hl
        go_wp2
        (try simp only [Exit.inBlock, Exit.then]); refine bodyPost_ret (results_none rfl _ _ _) rfl ?_
        exact ⟨rfl, LeftD.then G3.out HL.out⟩
end
end Go.Proofs.YtojmbbldehbjfaaGreat.DWk
set_option linter.unusedVariables false
namespace Go.Proofs.YtojmbbldehbjfaaGreat.DWl
open Go.RowKit Go.Proofs.YtojmbbldehbjfaaGreat.Kit Go.Proofs.YtojmbbldehbjfaaGreat.Blocks Go.Proofs.YtojmbbldehbjfaaGreat.Rlog Go.Proofs.YtojmbbldehbjfaaGreat.Ents Go.Proofs.YtojmbbldehbjfaaGreat.LogAt Go.Proofs.YtojmbbldehbjfaaGreat.Nod Go.Proofs.YtojmbbldehbjfaaGreat.NodAt Go.Proofs.YtojmbbldehbjfaaGreat.AppL Go.Proofs.YtojmbbldehbjfaaGreat.DAt Go.Proofs.YtojmbbldehbjfaaGreat.DWa Go.Proofs.YtojmbbldehbjfaaGreat.DWb Go.Proofs.YtojmbbldehbjfaaGreat.DWc Go.Proofs.YtojmbbldehbjfaaGreat.DWd Go.Proofs.YtojmbbldehbjfaaGreat.DWe Go.Proofs.YtojmbbldehbjfaaGreat.DWf Go.Proofs.YtojmbbldehbjfaaGreat.DWj Go.Proofs.YtojmbbldehbjfaaGreat.DWk
open Go.Proofs.YtojmbbldehbjfaaGreat.Quorum (mem size need sound maj node has turn change)

section
variable {B p N : Nat} {z : Seat} {m : Nd} {w : World}
theorem DAt.nx2 (h : DAt B w p z m) (hr : m.role = 2) {k : Nat} (hk : k < 7) : w.cell? ⟨p, 8 + k, none⟩ = some (.int .u64 (told m.next k : Int)) := by
  obtain ⟨vs, nx, mt, fr, h⟩ := h
  rw [← fr.n hr]
  exact DN.atN h fr hk
theorem DAt.mt2 (h : DAt B w p z m) (hr : m.role = 2) {k : Nat} (hk : k < 7) : w.cell? ⟨p, 15 + k, none⟩ = some (.int .u64 (told m.mat k : Int)) := by
  obtain ⟨vs, nx, mt, fr, h⟩ := h
  rw [← fr.t hr]
  exact DN.atM h fr hk
theorem DAt.free (h : DAt B w p z m) (i : Nat) : w.frozen? ⟨p, i, none⟩ = false := by
  obtain ⟨vs, nx, mt, fr, h⟩ := h
  exact NodeAt.free h i
theorem DAt.setNx (h : DAt B w p z m) (hr : m.role = 2) {k : Nat} (hk : k < 7) (x : Nat) : DAt B (w.setCell ⟨p, 8 + k, none⟩ (.int .u64 (x : Int))) p z { m with next := m.next.set k x } ∧ Grow p z z w (w.setCell ⟨p, 8 + k, none⟩ (.int .u64 (x : Int))) := by
  obtain ⟨vs, nx, mt, fr, h⟩ := h
  obtain ⟨h1, g1⟩ := DN.setTo h (8 + k) (.int .u64 (x : Int)) { m with next := m.next.set k x } vs (nx.set k x) mt (dcs_set_nx fr.nl hk x) rfl rfl rfl
  exact ⟨⟨vs, _, mt, ⟨fr.v, fun e => by rw [fr.n e], fr.t, by rw [List.length_set]; exact fr.nl, fr.ml⟩, h1⟩, g1⟩
theorem DAt.setMt (h : DAt B w p z m) (hr : m.role = 2) {k : Nat} (hk : k < 7) (x : Nat) : DAt B (w.setCell ⟨p, 15 + k, none⟩ (.int .u64 (x : Int))) p z { m with mat := m.mat.set k x } ∧ Grow p z z w (w.setCell ⟨p, 15 + k, none⟩ (.int .u64 (x : Int))) := by
  obtain ⟨vs, nx, mt, fr, h⟩ := h
  obtain ⟨h1, g1⟩ := DN.setTo h (15 + k) (.int .u64 (x : Int)) { m with mat := m.mat.set k x } vs nx (mt.set k x) (dcs_set_mt fr.nl fr.ml hk x) rfl rfl rfl
  exact ⟨⟨vs, nx, _, ⟨fr.v, fr.n, fun e => by rw [fr.t e], fr.nl, by rw [List.length_set]; exact fr.ml⟩, h1⟩, g1⟩
set_option maxRecDepth 100000 in
set_option maxHeartbeats 8000000 in
theorem dappended_any (h : DAt B w p z m) (f : NdB N m) (hN : N ≤ 700000000) (x : Msg) (a : Pl) (hn : node x.f = true) (hix : x.ix ≤ 4611686018427387904) :
    Calls Tryz.prog 69 #[.pointer (some ⟨p, 0, none⟩), ltV x a] w (DoesD B w p z (answered m x)) := by
  have hba : Below w.heap.size w (w.alloc (.cells (ltCs x a).toArray 47)) := (Below.refl _ _).alloc (Nat.le_refl _) _
  have hbx := LBox.new w x a
  have hnn := node_lt hn
  have hMn : ¬ (m.role = 2 ∧ x.tm = m.term) → answered m x = m := fun e => if_neg e
  have hM0 : (m.role = 2 ∧ x.tm = m.term) → answered m x = if x.ok = true then
      (if (last m.g).1 < x.ix then m
      else if more (advance (hasIt m x)) x.f.toNat (last m.g).1 = true then write (onward (advance (hasIt m x)) x.f.toNat) x.f.toNat else advance (hasIt m x))
    else write (retry m x) x.f.toNat := fun e => if_pos e
  have hfr : m.role = 2 → NdB N (retry m x) := fun e => retry_b f e (by omega) hix
  have hfh : m.role = 2 → NdB N (hasIt m x) := fun e => hasIt_b f e (by omega) hix
  have hre : retry m x = { m with next := m.next.set x.f.toNat (max (told m.mat x.f.toNat) (min x.ix (last m.g).1) + 1) } := rfl
  have hha : hasIt m x = { m with mat := m.mat.set x.f.toNat (max (told m.mat x.f.toNat) x.ix), next := m.next.set x.f.toNat (max (told m.next x.f.toNat) (max (told m.mat x.f.toNat) x.ix + 1)) } := rfl
  obtain ⟨M, hM⟩ : ∃ M, answered m x = M := ⟨_, rfl⟩
  rw [hM] at hMn hM0 ⊢
  have hrr : m.role = 2 → (retry m x).role = 2 := fun e => e
  have hrh : m.role = 2 → (hasIt m x).role = 2 := fun e => e
  obtain ⟨mr, hmr⟩ : ∃ mr, retry m x = mr := ⟨_, rfl⟩
  obtain ⟨mh, hmh⟩ : ∃ mh, hasIt m x = mh := ⟨_, rfl⟩
  rw [hmr, hmh] at hM0
  rw [hmr] at hfr hre hrr
  rw [hmh] at hfh hha hrh
  have hadv := fun e W z' (h' : DAt B W p z' mh) => dadvance_any h' (hfh e) (by omega) (hrh e)
  have hfa := fun e => advance_b (hfh e)
  obtain ⟨ma, hma⟩ : ∃ ma, advance mh = ma := ⟨_, rfl⟩
  rw [hma] at hM0
  simp only [hma] at hadv hfa
  obtain ⟨LI, hLI⟩ : ∃ LI, (last m.g).1 = LI := ⟨_, rfl⟩
  rw [hLI] at hM0 hre
  have hlb : LI ≤ 9223372036854775808 + N := by rw [← hLI]; exact f.top
  have H := Lib.hid h
  have F := Lib.hid f
  have HMn := Lib.hid hMn
  have HM := Lib.hid hM0
  have HFr := Lib.hid hfr
  have HRr := Lib.hid hrr
  have HFa := Lib.hid hfa
  have HAdv := Lib.hid hadv
  have HRe := Lib.hid hre
  have HHa := Lib.hid hha
  have HLI := Lib.hid hLI
  clear h f hMn hM0 hfr hfh hre hha hM hmr hmh hadv hfa hma hLI hn hrr hrh
  obtain ⟨kd, fr, tt, tm, ix, pv, cm, ok, es, d⟩ := x
  unfold ltV
  simp only [ltCs] at hba hbx hnn HMn HM HRe HHa hix ⊢
  have x0 := hbx.c0
  have x1 := hbx.c1
  have x2 := hbx.c2
  have x3 := hbx.c3
  have x4 := hbx.c4
  have x5 := hbx.c5
  have x6 := hbx.c6
  have x7 := hbx.c7
  have x8 := hbx.c8
  have x9 := hbx.c9
  have hlt := hbx.lt
  obtain ⟨w0, hw0⟩ : ∃ w0, w.alloc (.cells [.int .i64 kd, .int .i64 fr, .int .i64 tt, .int .u64 (tm : Int), .int .u64 (ix : Int), .int .u64 (pv : Int), .int .u64 (cm : Int), .bool ok, .slice a.A a.n a.c, .string d].toArray 47) = w0 := ⟨_, rfl⟩
  rw [hw0] at hba hbx x0 x1 x2 x3 x4 x5 x6 x7 x8 x9 hlt
  simp only at x0 x1 x2 x3 x4 x5 x6 x7 x8 x9
  have HW0 := Lib.hid hw0
  have HBA := Lib.hid hba
  clear hw0
  have h0 := H.out.below HBA.out
  have c1 := DAt.c1 h0
  have c4 := DAt.c4 h0
  obtain ⟨Y, hY⟩ : ∃ Y, m.term = Y := ⟨_, rfl⟩
  obtain ⟨R, hR⟩ : ∃ R, m.role = R := ⟨_, rfl⟩
  rw [hY] at c1
  rw [hR] at c4
  have HY := Lib.hid hY
  have HR := Lib.hid hR
  have hp0 := DAt.plt h0
  have hno : ¬ Mine p z w.heap.size := fun e => by have := (DAt.mine_lt H.out e).2; omega
  have HNo := Lib.hid hno
  clear h0 hba hbx hno hY hR
  by_cases hr : R = 2
  · by_cases hy : tm = Y
    · obtain ⟨I, hI⟩ : ∃ I : Nat, fr = (I : Int) := ⟨fr.toNat, by omega⟩
      have hI7 : I < 7 := by omega
      subst hI
      have hrole : m.role = 2 := HR.out.trans hr
      have HMM : Hid (M = if ok = true then (if LI < ix then m else if more ma I LI = true then write (onward ma I) I else ma) else write mr I) := Lib.hid (by have := HM.out ⟨hrole, hy.trans HY.out.symm⟩; simpa using this)
      have HRole := Lib.hid hrole
      have hr2 : ((R : Int) != 2) = false := by rw [hr]; rfl
      have hy2 : ((tm : Int) != (Y : Int)) = false := by rw [hy]; simp
      have hge : (0 : Int) ≤ (I : Int) := by omega
      have hl7 : (I : Int) < 7 := by omega
      clear HM HMn hr hy hrole hnn
      as_aux_lemma =>
      go_enter Tryz.func69, Tryz.ntmps69
      go_wp2_with fail
      rw [HW0.out]
      go_quiet (fail)
      have hbq : Below w.heap.size w (w0.drewN nq) := below_drewN HBA.out nq
      have K0 : Hid (∀ i u, w0.cell? ⟨w.heap.size, i, none⟩ = some u → (w0.drewN nq).cell? ⟨w.heap.size, i, none⟩ = some u) := fun i u hu => hu
      have hlq : w.heap.size < (w0.drewN nq).heap.size := hlt
      generalize w0.drewN nq = wq at hbq K0 hlq ⊢
      have hq := H.out.below hbq
      have c3 := DAt.c3 hq
      have hlast := dlast_any hq
      rw [HLI.out] at hlast
      obtain ⟨LT, hLT⟩ : ∃ LT, (last m.g).2 = LT := ⟨_, rfl⟩
      rw [hLT] at hlast
      have HLast := Lib.hid hlast
      have HBQ := Lib.hid hbq
      clear hq hlast hLT hbq c1 c4
      go_wp2_with fail
      with_reducible refine HLast.out.mono ?_
      rintro e w1 ⟨rfl, hb1⟩
      have K1 : Hid (∀ i u, w0.cell? ⟨w.heap.size, i, none⟩ = some u → w1.cell? ⟨w.heap.size, i, none⟩ = some u) := fun i u hu => (hb1.cell (p := ⟨w.heap.size, i, none⟩) hlq).trans (K0.out i u hu)
      have HB1 := Lib.hid (HBQ.out.trans (hb1.mono HBQ.out.size))
      have hl1 : w.heap.size < w1.heap.size := Nat.lt_of_lt_of_le hlq hb1.size
      have h1 := H.out.below HB1.out
      have d1 := K1.out _ _ x1
      have d4 := K1.out _ _ x4
      have d7 := K1.out _ _ x7
      have qn := DAt.nx2 h1 HRole.out hI7
      have qm := DAt.mt2 h1 HRole.out hI7
      have kn := DAt.free h1 (8 + I)
      have km := DAt.free h1 (15 + I)
      have hp1 := DAt.plt h1
      have hmb := told_b F.out.mb (by omega) I
      have hnb := told_b F.out.nb (by decide) I
      obtain ⟨TN, hTN⟩ : ∃ TN, told m.next I = TN := ⟨_, rfl⟩
      obtain ⟨TM, hTM⟩ : ∃ TM, told m.mat I = TM := ⟨_, rfl⟩
      rw [hTN] at qn hnb
      rw [hTM] at qm hmb
      have HTN := Lib.hid hTN
      have HTM := Lib.hid hTM
      have H1 := Lib.hid h1
      clear hb1 h1 hTN hTM x0 x1 x2 x3 x4 x5 x6 x7 x8 x9
      as_aux_lemma =>
      cases ok with
      | false =>
        obtain ⟨mn, hmn⟩ : ∃ mn, min ix LI = mn := ⟨_, rfl⟩
        obtain ⟨mx, hmx⟩ : ∃ mx, max TM mn = mx := ⟨_, rfl⟩
        obtain ⟨V, hV⟩ : ∃ V, mx + 1 = V := ⟨_, rfl⟩
        have hmin : min (ix : Int) (LI : Int) = (mn : Int) := by omega
        have hmax : max (TM : Int) (mn : Int) = (mx : Int) := by omega
        have hix' : ix ≤ 4611686018427387904 := hix
        have hw1 : IntKind.u64.wrap (1 + (mx : Int)) = (V : Int) := by rw [show 1 + (mx : Int) = (V : Int) by omega]; exact IntWalk.u64_in _ (by omega)
        obtain ⟨h2, g2⟩ := DAt.setNx H1.out HRole.out hI7 V
        have he : ({ m with next := m.next.set I V } : Nd) = mr := by
          have := HRe.out
          rw [Int.toNat_natCast, HTM.out, hmn, hmx, hV] at this
          exact this.symm
        rw [he] at h2
        have hw := dwrite_any (DAt.drew h2) (HFr.out HRole.out) (by omega) (HRr.out HRole.out) hI7
        have HM2 : Hid (M = write mr I) := Lib.hid (by rw [HMM.out, if_neg (by simp)])
        rw [← HM2.out] at hw
        have HW := Lib.hid hw
        have G2 := Lib.hid (((Grow.of_below z HB1.out).trans g2).thenBelow ((Below.refl _ _).drew))
        clear h2 g2 he hw hmn hmx hV
        go_wp2_with fail
        go_region
        generalize (w1.setCell ⟨p, 8 + I, none⟩ (.int .u64 (V : Int))).drew = w3 at HW G2 ⊢
        go_wp2_with fail
        with_reducible refine HW.out.mono ?_
        rintro e w5 ⟨rfl, hl⟩
        have HL := Lib.hid hl
        clear hl
        go_wp2
        (try simp only [Exit.inBlock, Exit.then]); refine bodyPost_ret (results_none rfl _ _ _) rfl ?_
        exact ⟨rfl, LeftD.then G2.out HL.out⟩
      | true =>
        by_cases hgt : LI < ix
        · have HM2 : Hid (M = m) := Lib.hid (by rw [HMM.out, if_pos rfl, if_pos hgt])
          have hg2 : decide ((LI : Int) < (ix : Int)) = true := by simp; omega
          go_wp2
          (try simp only [Exit.inBlock, Exit.then]); refine bodyPost_ret (results_none rfl _ _ _) rfl ?_
          rw [HM2.out]
          exact ⟨rfl, LeftD.of_below H.out HB1.out⟩
        · have hg2 : decide ((LI : Int) < (ix : Int)) = false := by simp; omega
          have HM2 : Hid (M = if more ma I LI = true then write (onward ma I) I else ma) := Lib.hid (by rw [HMM.out, if_pos rfl, if_neg hgt])
          have hix' : ix ≤ 4611686018427387904 := hix
          obtain ⟨M1, hM1⟩ : ∃ M1, max TM ix = M1 := ⟨_, rfl⟩
          obtain ⟨V, hV⟩ : ∃ V, max TN (M1 + 1) = V := ⟨_, rfl⟩
          obtain ⟨M1s, hM1s⟩ : ∃ M1s, M1 + 1 = M1s := ⟨_, rfl⟩
          have hmaxM : max (TM : Int) (ix : Int) = (M1 : Int) := by omega
          have hw1 : IntKind.u64.wrap ((M1 : Int) + 1) = (M1s : Int) := by rw [show (M1 : Int) + 1 = (M1s : Int) by omega]; exact IntWalk.u64_in _ (by omega)
          have hmaxN : max (TN : Int) (M1s : Int) = (V : Int) := by omega
          obtain ⟨h2, g2⟩ := DAt.setMt H1.out HRole.out hI7 M1
          have h2d := DAt.drew h2
          have g2d := g2.thenBelow ((Below.refl _ (w1.setCell ⟨p, 15 + I, none⟩ (.int .u64 (M1 : Int)))).drew)
          have qn2 := DAt.nx2 h2d HRole.out hI7
          have qm2 : (w1.setCell ⟨p, 15 + I, none⟩ (.int .u64 (M1 : Int))).drew.cell? ⟨p, 15 + I, none⟩ = some (.int .u64 (M1 : Int)) := by
            have := DAt.mt2 h2d HRole.out hI7
            have hl : I < m.mat.length := by rw [F.out.ml]; exact hI7
            rw [show told ({ m with mat := m.mat.set I M1 } : Nd).mat I = M1 by
              show told (m.mat.set I M1) I = M1
              unfold told
              simp [List.getD, List.getElem?_set_self hl]] at this
            exact this
          rw [show told ({ m with mat := m.mat.set I M1 } : Nd).next I = TN from HTN.out] at qn2
          have kn2 := DAt.free h2d (8 + I)
          have hp2 := DAt.plt h2d
          obtain ⟨h3, g3⟩ := DAt.setNx h2d HRole.out hI7 V
          have he : ({ m with mat := m.mat.set I M1, next := m.next.set I V } : Nd) = mh := by
            have := HHa.out
            rw [Int.toNat_natCast, HTM.out, HTN.out, hM1, hV] at this
            exact this.symm
          have h3' : DAt B ((w1.setCell ⟨p, 15 + I, none⟩ (.int .u64 (M1 : Int))).drew.setCell ⟨p, 8 + I, none⟩ (.int .u64 (V : Int))) p z mh := by
            have := h3
            rw [show ({ ({ m with mat := m.mat.set I M1 } : Nd) with next := ({ m with mat := m.mat.set I M1 } : Nd).next.set I V } : Nd) = mh from he] at this
            exact this
          have HV1 : Hid (M1 + 1 = M1s) := hM1s
          have H3 := Lib.hid (DAt.drew h3')
          have G3 := Lib.hid ((((Grow.of_below z HB1.out).trans g2d).trans g3).thenBelow ((Below.refl _ _).drew))
          clear h2 g2 h2d g2d h3 g3 h3' he hM1 hV hM1s
          go_wp2_with fail
          go_region
          generalize (w1.setCell ⟨p, 15 + I, none⟩ (.int .u64 (M1 : Int))).drew = w2 at qn2 qm2 kn2 hp2 H3 G3 ⊢
          go_wp2_with fail
          go_region
          generalize (w2.setCell ⟨p, 8 + I, none⟩ (.int .u64 (V : Int))).drew = w3 at H3 G3 ⊢
          have had := HAdv.out HRole.out _ _ H3.out
          have HAd := Lib.hid had
          have HFA := Lib.hid (HFa.out HRole.out)
          clear had qn qm kn km qn2 qm2 kn2 d1 d4 d7 hmaxM hmaxN hw1
          clear HAdv HFr HRe HHa HY HR HTN HTM HLast HV1 H1 H F HBQ HLI HBA K0 K1 hr2 hy2 hix hix' hlb hlt hlq hl1 hp0 hp1 hp2 hgt hg2 hmb hnb HW0
          as_aux_lemma =>
          go_wp2_with fail
          with_reducible refine HAd.out.mono ?_
          rintro e w4 ⟨rfl, z4, h4, g4'⟩
          have g4 := G3.out.trans g4'
          have hmem := dmembers_any h4 HFA.out
          have hcl := cfg_lt HFA.out
          obtain ⟨CA, hCA⟩ : ∃ CA, cfg ma = CA := ⟨_, rfl⟩
          obtain ⟨SA, hSA⟩ : ∃ SA, since ma = SA := ⟨_, rfl⟩
          rw [hCA, hSA] at hmem
          rw [hCA] at hcl
          have HMem := Lib.hid hmem
          have H4 := Lib.hid h4
          have HCA := Lib.hid hCA
          clear g4' HAd H3 G3 HB1 hmem h4 hCA hSA
          go_wp2_with fail
          with_reducible refine HMem.out.mono ?_
          rintro e wA ⟨rfl, hBa⟩
          have hA := H4.out.below hBa
          have G5 := Lib.hid (g4.thenBelow hBa)
          have r4 := DAt.c4 hA
          have hpA := DAt.plt hA
          have hMo : more ma I LI = (decide (ma.role = 2) && (decide (told ma.next I ≤ LI) && has (cfg ma) (I : Int))) := rfl
          rw [HCA.out] at hMo
          obtain ⟨RA, hRA⟩ : ∃ RA, ma.role = RA := ⟨_, rfl⟩
          rw [hRA] at r4
          have HA := Lib.hid hA
          have HMo := Lib.hid hMo
          have HRA := Lib.hid hRA
          clear hBa hA g4 hMo hRA H4 HMem HNo HCA HMM HRr
          by_cases hra : RA = 2
          · have hra2 : ((RA : Int) == 2) = true := by rw [hra]; rfl
            have hrm : ma.role = 2 := HRA.out.trans hra
            have HRm := Lib.hid hrm
            have rn := DAt.nx2 HA.out hrm hI7
            have rm := DAt.mt2 HA.out hrm hI7
            have kn5 := DAt.free HA.out (8 + I)
            have hmb4 := told_b HFA.out.mb (by omega) I
            have hhas := fun W => QuoWalkB.rhas_any CA (by omega) (I : Int) W
            obtain ⟨NX, hNX⟩ : ∃ NX, told ma.next I = NX := ⟨_, rfl⟩
            obtain ⟨MX, hMX⟩ : ∃ MX, told ma.mat I = MX := ⟨_, rfl⟩
            obtain ⟨hb, hhb⟩ : ∃ hb, has CA (I : Int) = hb := ⟨_, rfl⟩
            have hMo := HMo.out
            rw [hNX, hhb, hrm] at hMo
            rw [hNX] at rn
            rw [hMX] at rm hmb4
            rw [hhb] at hhas
            have HHas := Lib.hid hhas
            have HMo2 := Lib.hid hMo
            have HMX := Lib.hid hMX
            clear hhas hMo hNX hMX hhb hrm HMo
            by_cases hnx : NX ≤ LI
            · have hnx2 : decide ((NX : Int) ≤ (LI : Int)) = true := by simp; omega
              go_wp2_with fail
              with_reducible refine (HHas.out _).mono ?_
              rintro e wC ⟨rfl, rfl⟩
              cases hb with
              | true =>
                have HM3 : Hid (M = write (onward ma I) I) := Lib.hid (by rw [HM2.out, if_pos (by rw [HMo2.out]; simp [hnx])])
                obtain ⟨U, hU⟩ : ∃ U, MX + 1 = U := ⟨_, rfl⟩
                have hw2 : IntKind.u64.wrap ((MX : Int) + 1) = (U : Int) := by rw [show (MX : Int) + 1 = (U : Int) by omega]; exact IntWalk.u64_in _ (by omega)
                obtain ⟨h5, g5⟩ := DAt.setNx HA.out HRm.out hI7 U
                have he5 : ({ ma with next := ma.next.set I U } : Nd) = onward ma I := by unfold onward; rw [HMX.out, hU]
                rw [he5] at h5
                have hwr := dwrite_any (DAt.drew h5) (onward_b HFA.out HRm.out (by omega) I) (by omega) (show (onward ma I).role = 2 from HRm.out) hI7
                rw [← HM3.out] at hwr
                have HWr := Lib.hid hwr
                have G6 := Lib.hid ((G5.out.trans g5).thenBelow ((Below.refl _ _).drew))
                clear h5 g5 he5 hwr hU
                go_wp2_with fail
                go_region
                generalize (wA.setCell ⟨p, 8 + I, none⟩ (.int .u64 (U : Int))).drew = w6 at HWr G6 ⊢
                go_wp2_with fail
                with_reducible refine HWr.out.mono ?_
                rintro e w7 ⟨rfl, hl⟩
                have HL := Lib.hid hl
                clear hl
                go_wp2
                go_end0
                exact ⟨rfl, LeftD.then G6.out HL.out⟩
              | false =>
                have HM3 : Hid (M = ma) := Lib.hid (by rw [HM2.out, if_neg (by rw [HMo2.out]; simp)])
                go_wp2
                go_end0
                rw [HM3.out]
                exact ⟨rfl, z4, HA.out, G5.out⟩
            · have hnx2 : decide ((NX : Int) ≤ (LI : Int)) = false := by simp; omega
              have HM3 : Hid (M = ma) := Lib.hid (by rw [HM2.out, if_neg (by rw [HMo2.out]; simp [hnx])])
              go_wp2
              go_end0
              rw [HM3.out]
              exact ⟨rfl, z4, HA.out, G5.out⟩
          · have hra2 : ((RA : Int) == 2) = false := by simp; omega
            have HM3 : Hid (M = ma) := Lib.hid (by rw [HM2.out, if_neg (by rw [HMo.out, HRA.out]; simp [hra])])
            go_wp2
            go_end0
            rw [HM3.out]
            exact ⟨rfl, z4, HA.out, G5.out⟩
    · have HM2 : Hid (M = m) := Lib.hid (HMn.out (by rintro ⟨_, e⟩; exact hy (e.trans HY.out)))
      have hr2 : ((R : Int) != 2) = false := by rw [hr]; rfl
      have hy2 : ((tm : Int) != (Y : Int)) = true := by simp; omega
      clear HM HMn hr hy
      as_aux_lemma =>
      go_enter Tryz.func69, Tryz.ntmps69
      go_wp2_with fail
      rw [HW0.out]
      go_quiet (fail)
      go_wp2
      (try simp only [Exit.inBlock, Exit.then]); refine bodyPost_ret (results_none rfl _ _ _) rfl ?_
      rw [HM2.out]
      exact ⟨rfl, LeftD.of_below H.out (below_drewN HBA.out nq)⟩
  · have HM2 : Hid (M = m) := Lib.hid (HMn.out (by rintro ⟨e, _⟩; exact hr (HR.out.symm.trans e)))
    have hr2 : ((R : Int) != 2) = true := by simp; omega
    clear HM HMn hr
    as_aux_lemma =>
    go_enter Tryz.func69, Tryz.ntmps69
    go_wp2_with fail
    rw [HW0.out]
    go_quiet (fail)
    go_wp2
    (try simp only [Exit.inBlock, Exit.then]); refine bodyPost_ret (results_none rfl _ _ _) rfl ?_
    rw [HM2.out]
    exact ⟨rfl, LeftD.of_below H.out (below_drewN HBA.out nq)⟩
end
end Go.Proofs.YtojmbbldehbjfaaGreat.DWl
