/- What the document's Receive leaves of what it hears, walked. -/
import Derived.Test.YtojmbbldehbjfaaGreatGD4
import Derived.Test.YtojmbbldehbjfaaGreatGY
set_option linter.unusedVariables false
namespace Go.Proofs.YtojmbbldehbjfaaGreat.DWm
open Go.RowKit Go.Proofs.YtojmbbldehbjfaaGreat.Kit Go.Proofs.YtojmbbldehbjfaaGreat.Blocks Go.Proofs.YtojmbbldehbjfaaGreat.Rlog Go.Proofs.YtojmbbldehbjfaaGreat.Ents Go.Proofs.YtojmbbldehbjfaaGreat.LogAt Go.Proofs.YtojmbbldehbjfaaGreat.Nod Go.Proofs.YtojmbbldehbjfaaGreat.NodAt Go.Proofs.YtojmbbldehbjfaaGreat.AppL Go.Proofs.YtojmbbldehbjfaaGreat.DAt Go.Proofs.YtojmbbldehbjfaaGreat.DWa Go.Proofs.YtojmbbldehbjfaaGreat.DWb Go.Proofs.YtojmbbldehbjfaaGreat.DWe Go.Proofs.YtojmbbldehbjfaaGreat.DWf Go.Proofs.YtojmbbldehbjfaaGreat.DWg Go.Proofs.YtojmbbldehbjfaaGreat.DWj Go.Proofs.YtojmbbldehbjfaaGreat.DWk Go.Proofs.YtojmbbldehbjfaaGreat.DWl
open Go.Proofs.YtojmbbldehbjfaaGreat.WalkO (hears_kind)
open Go.Proofs.YtojmbbldehbjfaaGreat.Quorum (mem size need sound maj node has turn change)

section
variable {B p N : Nat} {z : Seat} {m : Nd} {w : World}
/-- Which of the seven it is. -/
theorem deaf {m : Nd} {x : Msg} (h : hears m x = false) : x.k < 1 ∨ (¬ x.k < 1 ∧ 5 < x.k) ∨ (¬ x.k < 1 ∧ ¬ 5 < x.k ∧ x.t ≠ (m.id : Int)) ∨ (¬ x.k < 1 ∧ ¬ 5 < x.k ∧ x.t = (m.id : Int) ∧ x.f < 0) ∨
    (¬ x.k < 1 ∧ ¬ 5 < x.k ∧ x.t = (m.id : Int) ∧ ¬ x.f < 0 ∧ 6 < x.f) ∨ (¬ x.k < 1 ∧ ¬ 5 < x.k ∧ x.t = (m.id : Int) ∧ ¬ x.f < 0 ∧ ¬ 6 < x.f ∧ x.f = (m.id : Int)) ∨
    (¬ x.k < 1 ∧ ¬ 5 < x.k ∧ x.t = (m.id : Int) ∧ ¬ x.f < 0 ∧ ¬ 6 < x.f ∧ x.f ≠ (m.id : Int) ∧ 4611686018427387904 < x.ix) := by
  unfold hears Quorum.node at h
  have h2 : ¬ ((1 ≤ x.k ∧ x.k ≤ 5 ∧ x.ix ≤ 4611686018427387904 ∧ x.t = (m.id : Int) ∧ x.f ≠ (m.id : Int)) ∧ (0 ≤ x.f ∧ x.f < 7)) := fun e => by
    rw [decide_eq_true e.1, decide_eq_true e.2] at h
    cases h
  omega
theorem heed {m : Nd} {x : Msg} (h : hears m x = true) : ¬ x.k < 1 ∧ ¬ 5 < x.k ∧ x.t = (m.id : Int) ∧ ¬ x.f < 0 ∧ ¬ 6 < x.f ∧ x.f ≠ (m.id : Int) ∧ ¬ 4611686018427387904 < x.ix := by
  have h1 := of_decide_eq_true (Bool.and_eq_true_iff.1 h).1
  have h2 := node_lt (Bool.and_eq_true_iff.1 h).2
  omega
set_option maxRecDepth 100000 in
set_option maxHeartbeats 8000000 in
theorem dreceive_deaf (h : DAt B w p z m) (x : Msg) (a : Pl) (hd : hears m x = false) :
    Calls Tryz.prog 35 #[.pointer (some ⟨p, 0, none⟩), ltV x a] w (DoesD B w p z m) := by
  have hba : Below w.heap.size w (w.alloc (.cells (ltCs x a).toArray 47)) := (Below.refl _ _).alloc (Nat.le_refl _) _
  have hbx := LBox.new w x a
  have hc := deaf hd
  have H := Lib.hid h
  clear h hd
  obtain ⟨kd, fr, tt, tm, ix, pv, cm, ok, es, d⟩ := x
  unfold ltV
  simp only [ltCs] at hba hbx hc ⊢
  have x0 := hbx.c0
  have x1 := hbx.c1
  have x2 := hbx.c2
  have x4 := hbx.c4
  have hlt := hbx.lt
  obtain ⟨w0, hw0⟩ : ∃ w0, w.alloc (.cells [.int .i64 kd, .int .i64 fr, .int .i64 tt, .int .u64 (tm : Int), .int .u64 (ix : Int), .int .u64 (pv : Int), .int .u64 (cm : Int), .bool ok, .slice a.A a.n a.c, .string d].toArray 47) = w0 := ⟨_, rfl⟩
  rw [hw0] at hba hbx x0 x1 x2 x4 hlt
  simp only at x0 x1 x2 x4
  have HW0 := Lib.hid hw0
  have HBA := Lib.hid hba
  clear hw0
  have h0 := H.out.below HBA.out
  have c0 := DAt.c0 h0
  obtain ⟨I, hI⟩ : ∃ I, m.id = I := ⟨_, rfl⟩
  rw [hI] at c0 hc
  have hp0 := DAt.plt h0
  clear h0 hba hbx hI
  rcases hc with e1 | ⟨e1, e2⟩ | ⟨e1, e2, e3⟩ | ⟨e1, e2, e3, e4⟩ | ⟨e1, e2, e3, e4, e5⟩ | ⟨e1, e2, e3, e4, e5, e6⟩ | ⟨e1, e2, e3, e4, e5, e6, e7⟩
  · as_aux_lemma =>
    have d1 : decide (kd < 1) = true := decide_eq_true e1
    go_enter Tryz.func35, Tryz.ntmps35
    go_wp2_with fail
    rw [HW0.out]
    go_quiet (fail)
    go_wp2
    (try simp only [Exit.inBlock, Exit.then]); refine bodyPost_ret (results_none rfl _ _ _) rfl ?_
    exact ⟨rfl, LeftD.of_below H.out (below_drewN HBA.out nq)⟩
  · as_aux_lemma =>
    have d1 : decide (kd < 1) = false := decide_eq_false e1
    have d2 : decide ((5 : Int) < kd) = true := decide_eq_true e2
    go_enter Tryz.func35, Tryz.ntmps35
    go_wp2_with fail
    rw [HW0.out]
    go_quiet (fail)
    go_wp2
    (try simp only [Exit.inBlock, Exit.then]); refine bodyPost_ret (results_none rfl _ _ _) rfl ?_
    exact ⟨rfl, LeftD.of_below H.out (below_drewN HBA.out nq)⟩
  · as_aux_lemma =>
    have d1 : decide (kd < 1) = false := decide_eq_false e1
    have d2 : decide ((5 : Int) < kd) = false := decide_eq_false e2
    have d3 : (tt != (I : Int)) = true := by simpa using e3
    go_enter Tryz.func35, Tryz.ntmps35
    go_wp2_with fail
    rw [HW0.out]
    go_quiet (fail)
    go_wp2
    (try simp only [Exit.inBlock, Exit.then]); refine bodyPost_ret (results_none rfl _ _ _) rfl ?_
    exact ⟨rfl, LeftD.of_below H.out (below_drewN HBA.out nq)⟩
  · as_aux_lemma =>
    have d1 : decide (kd < 1) = false := decide_eq_false e1
    have d2 : decide ((5 : Int) < kd) = false := decide_eq_false e2
    have d3 : (tt != (I : Int)) = false := by simpa using e3
    clear e3
    have d4 : decide (fr < 0) = true := decide_eq_true e4
    go_enter Tryz.func35, Tryz.ntmps35
    go_wp2_with fail
    rw [HW0.out]
    go_quiet (fail)
    go_wp2
    (try simp only [Exit.inBlock, Exit.then]); refine bodyPost_ret (results_none rfl _ _ _) rfl ?_
    exact ⟨rfl, LeftD.of_below H.out (below_drewN HBA.out nq)⟩
  · as_aux_lemma =>
    have d1 : decide (kd < 1) = false := decide_eq_false e1
    have d2 : decide ((5 : Int) < kd) = false := decide_eq_false e2
    have d3 : (tt != (I : Int)) = false := by simpa using e3
    clear e3
    have d4 : decide (fr < 0) = false := decide_eq_false e4
    have d5 : decide ((6 : Int) < fr) = true := decide_eq_true e5
    go_enter Tryz.func35, Tryz.ntmps35
    go_wp2_with fail
    rw [HW0.out]
    go_quiet (fail)
    go_wp2
    (try simp only [Exit.inBlock, Exit.then]); refine bodyPost_ret (results_none rfl _ _ _) rfl ?_
    exact ⟨rfl, LeftD.of_below H.out (below_drewN HBA.out nq)⟩
  · as_aux_lemma =>
    have d1 : decide (kd < 1) = false := decide_eq_false e1
    have d2 : decide ((5 : Int) < kd) = false := decide_eq_false e2
    have d3 : (tt != (I : Int)) = false := by simpa using e3
    clear e3
    have d4 : decide (fr < 0) = false := decide_eq_false e4
    have d5 : decide ((6 : Int) < fr) = false := decide_eq_false e5
    have d6 : (fr == (I : Int)) = true := by simpa using e6
    clear e6
    go_enter Tryz.func35, Tryz.ntmps35
    go_wp2_with fail
    rw [HW0.out]
    go_quiet (fail)
    go_wp2
    (try simp only [Exit.inBlock, Exit.then]); refine bodyPost_ret (results_none rfl _ _ _) rfl ?_
    exact ⟨rfl, LeftD.of_below H.out (below_drewN HBA.out nq)⟩
  · as_aux_lemma =>
    have d1 : decide (kd < 1) = false := decide_eq_false e1
    have d2 : decide ((5 : Int) < kd) = false := decide_eq_false e2
    have d3 : (tt != (I : Int)) = false := by simpa using e3
    clear e3
    have d4 : decide (fr < 0) = false := decide_eq_false e4
    have d5 : decide ((6 : Int) < fr) = false := decide_eq_false e5
    have d6 : (fr == (I : Int)) = false := by simpa using e6
    have d7 : decide ((4611686018427387904 : Int) < (ix : Int)) = true := by simp; omega
    go_enter Tryz.func35, Tryz.ntmps35
    go_wp2_with fail
    rw [HW0.out]
    go_quiet (fail)
    go_wp2
    (try simp only [Exit.inBlock, Exit.then]); refine bodyPost_ret (results_none rfl _ _ _) rfl ?_
    exact ⟨rfl, LeftD.of_below H.out (below_drewN HBA.out nq)⟩
end
end Go.Proofs.YtojmbbldehbjfaaGreat.DWm
set_option linter.unusedVariables false
namespace Go.Proofs.YtojmbbldehbjfaaGreat.DWn
open Go.RowKit Go.Proofs.YtojmbbldehbjfaaGreat.Kit Go.Proofs.YtojmbbldehbjfaaGreat.Blocks Go.Proofs.YtojmbbldehbjfaaGreat.Rlog Go.Proofs.YtojmbbldehbjfaaGreat.Ents Go.Proofs.YtojmbbldehbjfaaGreat.LogAt Go.Proofs.YtojmbbldehbjfaaGreat.Nod Go.Proofs.YtojmbbldehbjfaaGreat.NodAt Go.Proofs.YtojmbbldehbjfaaGreat.AppL Go.Proofs.YtojmbbldehbjfaaGreat.DAt Go.Proofs.YtojmbbldehbjfaaGreat.DWa Go.Proofs.YtojmbbldehbjfaaGreat.DWb Go.Proofs.YtojmbbldehbjfaaGreat.DWe Go.Proofs.YtojmbbldehbjfaaGreat.DWf Go.Proofs.YtojmbbldehbjfaaGreat.DWg Go.Proofs.YtojmbbldehbjfaaGreat.DWj Go.Proofs.YtojmbbldehbjfaaGreat.DWk Go.Proofs.YtojmbbldehbjfaaGreat.DWl Go.Proofs.YtojmbbldehbjfaaGreat.DWm
open Go.Proofs.YtojmbbldehbjfaaGreat.WalkO (hears_kind)
open Go.Proofs.YtojmbbldehbjfaaGreat.Quorum (mem size need sound maj node has turn change)

section
variable {B p N : Nat} {z : Seat} {m : Nd} {w : World}
/-- Behind the term that the letter may have brought. -/
def MidD (B : Nat) (w : World) (p : Nat) (z : Seat) (m0 : Nd) (x : Msg) (a : Pl) (wx : World) : Prop :=
  ∃ z2, DAt B wx p z2 m0 ∧ Grow p z z2 w wx ∧ LBox wx w.heap.size x a ∧ ¬ Mine p z2 w.heap.size
/-- Which of the eleven it is. -/
theorem vote_which {m : Nd} {x : Msg} (hv : -1 ≤ m.vote) {T0 R0 LI LT : Nat} {V0 : Int} (h1 : m.term = T0) (h2 : m.role = R0) (h3 : m.vote = V0) (h4 : (last m.g).1 = LI) (h5 : (last m.g).2 = LT) {fr : Int} {tm ix pv : Nat} (e1 : x.f = fr) (e2 : x.tm = tm) (e3 : x.ix = ix) (e4 : x.pv = pv) :
    (grants m x = false ∧ ((tm ≠ T0) ∨ (tm = T0 ∧ R0 ≠ 0) ∨ (tm = T0 ∧ R0 = 0 ∧ ¬ V0 < 0 ∧ V0 ≠ fr) ∨ (tm = T0 ∧ R0 = 0 ∧ V0 < 0 ∧ ¬ LT < pv ∧ pv ≠ LT) ∨ (tm = T0 ∧ R0 = 0 ∧ V0 < 0 ∧ ¬ LT < pv ∧ pv = LT ∧ ¬ LI ≤ ix) ∨ (tm = T0 ∧ R0 = 0 ∧ ¬ V0 < 0 ∧ V0 = fr ∧ ¬ LT < pv ∧ pv ≠ LT) ∨ (tm = T0 ∧ R0 = 0 ∧ ¬ V0 < 0 ∧ V0 = fr ∧ ¬ LT < pv ∧ pv = LT ∧ ¬ LI ≤ ix))) ∨ (grants m x = true ∧ ((tm = T0 ∧ R0 = 0 ∧ V0 < 0 ∧ LT < pv) ∨ (tm = T0 ∧ R0 = 0 ∧ V0 < 0 ∧ ¬ LT < pv ∧ pv = LT ∧ LI ≤ ix) ∨ (tm = T0 ∧ R0 = 0 ∧ ¬ V0 < 0 ∧ V0 = fr ∧ LT < pv) ∨ (tm = T0 ∧ R0 = 0 ∧ ¬ V0 < 0 ∧ V0 = fr ∧ ¬ LT < pv ∧ pv = LT ∧ LI ≤ ix))) := by
  subst h1 h2 h3 h4 h5 e1 e2 e3 e4
  unfold grants newer
  by_cases c1 : x.tm = m.term
  · by_cases c2 : m.role = 0
    · by_cases c3 : m.vote < 0
      · have c3' : m.vote = -1 := by omega
        by_cases c5 : (last m.g).2 < x.pv
        · exact .inr ⟨by simp [c1, c2, c3', c5], by omega⟩
        · by_cases c6 : x.pv = (last m.g).2
          · by_cases c7 : (last m.g).1 ≤ x.ix
            · exact .inr ⟨by simp [c1, c2, c3', c6, c7], by omega⟩
            · exact .inl ⟨by simp [c1, c2, c3', c6, c7], by omega⟩
          · exact .inl ⟨by simp [c1, c2, c3', c5, c6], by omega⟩
      · have c3' : ¬ m.vote = -1 := by omega
        by_cases c4 : m.vote = x.f
        · by_cases c5 : (last m.g).2 < x.pv
          · exact .inr ⟨by simp [c1, c2, c4, c5], by omega⟩
          · by_cases c6 : x.pv = (last m.g).2
            · by_cases c7 : (last m.g).1 ≤ x.ix
              · exact .inr ⟨by simp [c1, c2, c4, c6, c7], by omega⟩
              · exact .inl ⟨by simp [c1, c2, c4, c6, c7], by omega⟩
            · exact .inl ⟨by simp [c1, c2, c4, c5, c6], by omega⟩
        · exact .inl ⟨by simp [c1, c2, c3', c4], by omega⟩
    · exact .inl ⟨by simp [c1, c2], by omega⟩
  · exact .inl ⟨by simp [c1], by omega⟩
theorem DAt.c2 (h : DAt B w p z m) : w.cell? ⟨p, 2, none⟩ = some (.int .i64 m.vote) := by
  obtain ⟨vs, nx, mt, fr, h⟩ := h
  exact DN.c2 h
/-- It votes: behind the two stores. -/
theorem DAt.votes (h : DAt B w p z m) (F : Int) : ∃ b, w.cell? ⟨p, 2, none⟩ = some (.int .i64 m.vote) ∧ w.frozen? ⟨p, 2, none⟩ = false ∧ w.cell? ⟨p, 25, none⟩ = some (.bool b) ∧ w.frozen? ⟨p, 25, none⟩ = false ∧ p < w.heap.size ∧
    DAt B ((w.setCell ⟨p, 2, none⟩ (.int .i64 F)).setCell ⟨p, 25, none⟩ (.bool true)) p z (votesFor m F) ∧ Grow p z z w ((w.setCell ⟨p, 2, none⟩ (.int .i64 F)).setCell ⟨p, 25, none⟩ (.bool true)) := by
  obtain ⟨vs, nx, mt, fr, h⟩ := h
  obtain ⟨h1, g1⟩ := DN.setTo h 2 (.int .i64 F) { m with vote := F } vs nx mt rfl rfl rfl rfl
  obtain ⟨h2, g2⟩ := DN.setTo h1 25 (.bool true) (votesFor m F) vs nx mt (by
    rw [show (25 : Nat) = 22 + 3 from rfl, dcs_set_tl fr.nl fr.ml 3]; rfl) rfl rfl rfl
  exact ⟨_, DN.c2 h, NodeAt.free h 2, DN.c25 h fr, NodeAt.free h 25, h.plt, ⟨vs, nx, mt, ⟨fr.v, fr.n, fr.t, fr.nl, fr.ml⟩, h2⟩, g1.trans g2⟩
set_option maxRecDepth 100000 in
set_option maxHeartbeats 8000000 in
theorem dreceive_rest (h : DAt B w p z m) (f : NdB N m) (hN : N ≤ 700000000) (x : Msg) (a : Pl) (hx : MsgB x) (hf : Fit w (Mine p z) x a) (hes : x.es.length ≤ 100000000) (hh : hears m x = true) (hk : x.k = 3 ∨ x.k = 4 ∨ x.k = 5) :
    Calls Tryz.prog 35 #[.pointer (some ⟨p, 0, none⟩), ltV x a] w (DoesD B w p z (handles (heard m x) x)) := by
  have hba : Below w.heap.size w (w.alloc (.cells (ltCs x a).toArray 47)) := (Below.refl _ _).alloc (Nat.le_refl _) _
  have hbx := LBox.new w x a
  have hfo := fun W (hb : Below w.heap.size w W) => dfollow_any (h.below hb) f hx.tm
  have hhb := heard_b f hx
  have hnod := hears_node hh
  have hixs := hears_ix hh
  have hkis := hk
  have hc := heed hh
  have hh1 : m.term < x.tm → heard m x = followN m x.tm := fun e => if_pos e
  have hh2 : ¬ m.term < x.tm → heard m x = m := fun e => if_neg e
  obtain ⟨m0, hm0⟩ : ∃ m0, heard m x = m0 := ⟨_, rfl⟩
  rw [hm0] at hhb hh1 hh2 ⊢
  obtain ⟨M, hM⟩ : ∃ M, handles m0 x = M := ⟨_, rfl⟩
  rw [hM]
  have H := Lib.hid h
  have HX := Lib.hid hx
  have HFit := Lib.hid hf
  have HFo := Lib.hid hfo
  have HF0 := Lib.hid hhb
  have Hn := Lib.hid hnod
  have Hi := Lib.hid hixs
  have Hk := Lib.hid hkis
  have HM := Lib.hid hM
  have Hh1 := Lib.hid hh1
  have Hh2 := Lib.hid hh2
  have Hes := Lib.hid hes
  clear h f hx hf hfo hhb hnod hixs hkis hM hh1 hh2 hm0 hes hh hk
  obtain ⟨kd, fr, tt, tm, ix, pv, cm, ok, es, d⟩ := x
  unfold ltV
  simp only [ltCs] at hba hbx hc Hh1 Hh2 ⊢
  have x3 := hbx.c3
  have x0 := hbx.c0
  have x1 := hbx.c1
  have x2 := hbx.c2
  have x4 := hbx.c4
  have hlt := hbx.lt
  simp only at hbx x0 x1 x2 x3 x4 hlt
  obtain ⟨w0, hw0⟩ : ∃ w0, w.alloc (.cells [.int .i64 kd, .int .i64 fr, .int .i64 tt, .int .u64 (tm : Int), .int .u64 (ix : Int), .int .u64 (pv : Int), .int .u64 (cm : Int), .bool ok, .slice a.A a.n a.c, .string d].toArray 47) = w0 := ⟨_, rfl⟩
  rw [hw0] at hba hbx x0 x1 x2 x3 x4 hlt
  obtain ⟨Y, hY⟩ : ∃ Y, m.term = Y := ⟨_, rfl⟩
  rw [hY] at Hh1 Hh2
  have HW0 := Lib.hid hw0
  have HBA := Lib.hid hba
  have HBX := Lib.hid hbx
  have h0 := H.out.below hba
  have c0 := DAt.c0 h0
  have c1 := DAt.c1 h0
  have hp0 := DAt.plt h0
  obtain ⟨I, hI⟩ : ∃ I, m.id = I := ⟨_, rfl⟩
  rw [hI] at c0 hc
  rw [hY] at c1
  have HY := Lib.hid hY
  obtain ⟨e1, e2, e3, e4, e5, e6, e7⟩ := hc
  have d1 : decide (kd < 1) = false := decide_eq_false e1
  have d2 : decide ((5 : Int) < kd) = false := decide_eq_false e2
  have d3 : (tt != (I : Int)) = false := by simpa using e3
  have d4 : decide (fr < 0) = false := decide_eq_false e4
  have d5 : decide ((6 : Int) < fr) = false := decide_eq_false e5
  have d6 : (fr == (I : Int)) = false := by simpa using e6
  have d7 : decide ((4611686018427387904 : Int) < (ix : Int)) = false := by simp; omega
  clear hw0 hba hbx hY hI h0 e3
  go_enter Tryz.func35, Tryz.ntmps35
  go_wp2_with fail
  rw [HW0.out]
  go_quiet (fail)
  have HB1 : Hid (Below w.heap.size w (w0.drewN nq)) := Lib.hid (below_drewN HBA.out nq)
  have HX1 : Hid (LBox (w0.drewN nq) w.heap.size ⟨kd, fr, tt, tm, ix, pv, cm, ok, es, d⟩ a) := Lib.hid (HBX.out.below (below_drewN (Below.refl _ _) nq))
  have x3' : (w0.drewN nq).cell? ⟨w.heap.size, 3, none⟩ = some (.int .u64 (tm : Int)) := x3
  have c1' : (w0.drewN nq).cell? ⟨p, 1, none⟩ = some (.int .u64 (Y : Int)) := c1
  have hp1 : p < (w0.drewN nq).heap.size := hp0
  clear x0 x1 x2 x3 x4 c0 c1 hp0 hlt HW0 HBA HBX d1 d2 d3 d4 d5 d6 d7 e1 e2 e5 e6 e7
  generalize w0.drewN nq = w1 at HB1 HX1 x3' c1' hp1 ⊢
  as_aux_lemma =>
  go_wp2_with fail
  go_quiet (fail)
  have HBQ : Hid (Below w.heap.size w (w1.drewN nq)) := below_drewN HB1.out nq
  have x3 : (w1.drewN nq).cell? ⟨w.heap.size, 3, none⟩ = some (.int .u64 (tm : Int)) := x3'
  have HXQ : Hid (LBox (w1.drewN nq) w.heap.size ⟨kd, fr, tt, tm, ix, pv, cm, ok, es, d⟩ a) := Lib.hid (HX1.out.below (below_drewN (Below.refl _ _) nq))
  clear x3' c1' HB1 HX1 hp1
  generalize w1.drewN nq = wq at HBQ x3 HXQ ⊢
  as_aux_lemma =>
  go_upto_if 55 with fail
  go_cut [] from 4 to 59 (fun wx => MidD B w p z m0 ⟨kd, fr, tt, tm, ix, pv, cm, ok, es, d⟩ a wx)
  case first =>
    by_cases hgt : Y < tm
    · have hgd : decide ((Y : Int) < (tm : Int)) = true := by simp; omega
      have hc := HFo.out _ HBQ.out
      rw [← Hh1.out hgt] at hc
      have HC := Lib.hid hc
      clear hc
      go_wp2_with fail
      with_reducible refine HC.out.mono ?_
      rintro e w2 ⟨rfl, z2, h2, g2⟩
      have hno : ¬ Mine p z w.heap.size := fun e => by have := (DAt.mine_lt H.out e).2; omega
      have HMid : Hid (MidD B w p z m0 ⟨kd, fr, tt, tm, ix, pv, cm, ok, es, d⟩ a w2) := Lib.hid ⟨z2, h2, (Grow.of_below z HBQ.out).trans g2, HXQ.out.keep g2.only hno, WalkG.Grow.out g2 hno HXQ.out.lt⟩
      clear h2 g2
      go_wp2_with fail
      go_meet
      (with_reducible exact HMid.out)
    · have hgd : decide ((Y : Int) < (tm : Int)) = false := by simp; omega
      have HMid : Hid (MidD B w p z m0 ⟨kd, fr, tt, tm, ix, pv, cm, ok, es, d⟩ a wq) := Lib.hid ⟨z, by rw [Hh2.out hgt]; exact H.out.below HBQ.out, Grow.of_below z HBQ.out, HXQ.out, fun e => by have := (DAt.mine_lt H.out e).2; omega⟩
      go_wp2_with fail
      go_meet
      (with_reducible exact HMid.out)
  case rest =>
    obtain ⟨z2, h2, g2, hbx, hno2⟩ := hcut
    have HNo2 := Lib.hid hno2
    clear hno2
    have y0 := hbx.c0
    have y1 := hbx.c1
    have y2 := hbx.c2
    have y3 := hbx.c3
    have y4 := hbx.c4
    have y5 := hbx.c5
    have y6 := hbx.c6
    have y7 := hbx.c7
    have y8 := hbx.c8
    have y9 := hbx.c9
    have hlx := hbx.lt
    (try simp only at y0 y1 y2 y3 y4 y5 y6 y7 y8 y9)
    have H2 := Lib.hid h2
    have G2 := Lib.hid g2
    have HFit2 := Lib.hid (g2.fit HFit.out)
    have hk := Hk.out
    (try simp only at hk)
    clear h2 g2 hbx x3 HBQ HXQ Hk Hh1 Hh2 HFo HFit H e4
    rcases hk with rfl | rfl | rfl
    · as_aux_lemma =>
      have hc := dnews_any H2.out HF0.out (by omega) ⟨3, fr, tt, tm, ix, pv, cm, ok, es, d⟩ a HX.out HFit2.out Hn.out (.inl rfl) Hi.out Hes.out
      rw [show writtenN m0 ⟨3, fr, tt, tm, ix, pv, cm, ok, es, d⟩ = M from HM.out] at hc
      unfold ltV at hc
      (try simp only at hc)
      have HC := Lib.hid hc
      clear hc
      go_wp2_with fail
      with_reducible refine HC.out.mono ?_
      rintro e w3 ⟨rfl, hl⟩
      have HL := Lib.hid hl
      clear hl
      go_wp2
      go_end0
      exact ⟨rfl, LeftD.then G2.out HL.out⟩
    · as_aux_lemma =>
      have hc := dappended_any H2.out HF0.out (by omega) ⟨4, fr, tt, tm, ix, pv, cm, ok, es, d⟩ a Hn.out Hi.out
      rw [show answered m0 ⟨4, fr, tt, tm, ix, pv, cm, ok, es, d⟩ = M from HM.out] at hc
      unfold ltV at hc
      (try simp only at hc)
      have HC := Lib.hid hc
      clear hc
      go_wp2_with fail
      with_reducible refine HC.out.mono ?_
      rintro e w3 ⟨rfl, hl⟩
      have HL := Lib.hid hl
      clear hl
      go_wp2
      go_end0
      exact ⟨rfl, LeftD.then G2.out HL.out⟩
    · as_aux_lemma =>
      have hc := dnews_any H2.out HF0.out (by omega) ⟨5, fr, tt, tm, ix, pv, cm, ok, es, d⟩ a HX.out HFit2.out Hn.out (.inr rfl) Hi.out Hes.out
      rw [show writtenN m0 ⟨5, fr, tt, tm, ix, pv, cm, ok, es, d⟩ = M from HM.out] at hc
      unfold ltV at hc
      (try simp only at hc)
      have HC := Lib.hid hc
      clear hc
      go_wp2_with fail
      with_reducible refine HC.out.mono ?_
      rintro e w3 ⟨rfl, hl⟩
      have HL := Lib.hid hl
      clear hl
      go_wp2
      go_end0
      exact ⟨rfl, LeftD.then G2.out HL.out⟩
end
end Go.Proofs.YtojmbbldehbjfaaGreat.DWn
