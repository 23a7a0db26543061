/- What the document's Timeout leaves, walked. -/
import Derived.Test.YtojmbbldehbjfaaGreatGD1
import Derived.Test.YtojmbbldehbjfaaGreatGX
import Derived.Test.YtojmbbldehbjfaaGreatGR
set_option linter.unusedVariables false
namespace Go.Proofs.YtojmbbldehbjfaaGreat.DWe
open Go.RowKit Go.Proofs.YtojmbbldehbjfaaGreat.Kit Go.Proofs.YtojmbbldehbjfaaGreat.Blocks Go.Proofs.YtojmbbldehbjfaaGreat.Rlog Go.Proofs.YtojmbbldehbjfaaGreat.Ents Go.Proofs.YtojmbbldehbjfaaGreat.LogAt Go.Proofs.YtojmbbldehbjfaaGreat.Nod Go.Proofs.YtojmbbldehbjfaaGreat.NodAt Go.Proofs.YtojmbbldehbjfaaGreat.AppL Go.Proofs.YtojmbbldehbjfaaGreat.DAt Go.Proofs.YtojmbbldehbjfaaGreat.DWa Go.Proofs.YtojmbbldehbjfaaGreat.DWb Go.Proofs.YtojmbbldehbjfaaGreat.DWc Go.Proofs.YtojmbbldehbjfaaGreat.DWd
open Go.Proofs.YtojmbbldehbjfaaGreat.WalkG (EBox logd_b)
open Go.Proofs.YtojmbbldehbjfaaGreat.Told (unums)
open Go.Proofs.YtojmbbldehbjfaaGreat.Quorum (mem size need sound maj node has turn change)

section
variable {B p N : Nat} {z : Seat} {m : Nd} {w : World}
theorem DAt.mine_lt (h : DAt B w p z m) {k : Nat} (hk : Mine p z k) : B ≤ k ∧ k < w.heap.size := by
  obtain ⟨vs, nx, mt, fr, h⟩ := h
  exact NodeAt.mine_lt h hk
theorem DAt.plt (h : DAt B w p z m) : p < w.heap.size := by
  obtain ⟨vs, nx, mt, fr, h⟩ := h
  exact h.plt
theorem DAt.keep (h : DAt B w p z m) {w' : World} {S : Nat → Prop} (k : Only S w w') (h1 : ∀ b, Mine p z b → ¬ S b) (h2 : ∀ x ∈ z.Z, Off S x.2.A x.2.n) : DAt B w' p z m := by
  obtain ⟨vs, nx, mt, fr, h⟩ := h
  exact ⟨vs, nx, mt, fr, NodeAt.keep h k h1 h2⟩
theorem DAt.c1 (h : DAt B w p z m) : w.cell? ⟨p, 1, none⟩ = some (.int .u64 (m.term : Int)) := by
  obtain ⟨vs, nx, mt, fr, h⟩ := h
  exact DN.c1 h
theorem DAt.c3 (h : DAt B w p z m) : w.cell? ⟨p, 3, none⟩ = some (.pointer (some ⟨z.q, 0, none⟩)) := by
  obtain ⟨vs, nx, mt, fr, h⟩ := h
  exact DN.c3 h
theorem DAt.fit (h : DAt B w p z m) : ∀ x ∈ z.Z, Fit w (Far p z) x.1 x.2 := by
  obtain ⟨vs, nx, mt, fr, h⟩ := h
  exact h.fit
/-- Behind the first region of add. -/
def Mid (B : Nat) (w : World) (p : Nat) (z : Seat) (m1 : Nd) (x : Ent) (k : Int) (a b : Value) (wx : World) : Prop :=
  ∃ r z', a = .pointer (some ⟨r, 0, none⟩) ∧ b = .int .i64 k ∧ EBox wx r x ∧ DAt B wx p z' m1 ∧ Grow p z z' w wx ∧ w.heap.size ≤ r ∧ ¬ Mine p z' r
theorem mid_late {m1 : Nd} {x : Ent} {k : Int} {wA : World} {z' : Seat} (h : DAt B wA p z' m1) (hg : Grow p z z' w wA) :
    Mid B w p z m1 x k (.pointer (some ⟨wA.heap.size, 0, none⟩)) (.int .i64 k) (wA.alloc (.cells #[.int .u64 (x.term : Int), .int .u64 (x.idx : Int), .int .i64 x.kind, .string x.data] 81)) :=
  ⟨wA.heap.size, z', rfl, rfl, ⟨heap_alloc_new wA _⟩, h.below ((Below.refl _ _).alloc (Nat.le_refl _) _), hg.thenBelow ((Below.refl _ _).alloc (Nat.le_refl _) _), hg.size, fun hm => by have := (DAt.mine_lt h hm).2; omega⟩
theorem dlog_add (h : DAt B w p z m) (f : NdB N m) (hN : N ≤ 1000000000) (kind : Int) (d : ByteArray) (k0 : -9223372036854775808 ≤ kind) (k1 : kind ≤ 9223372036854775807) (hd : d.size ≤ 9223372036854775807) {x : Ent} {k : Int} {g : G} (hr : Rlog.add m.g m.term kind d = ((x, k), g)) :
    Calls Tryz.prog 109 #[.pointer (some ⟨z.q, 0, none⟩), .int .u64 (m.term : Int), .int .i64 kind, .string d] w fun e w' =>
      e = .returned (.tuple #[.agg #[.int .u64 (x.term : Int), .int .u64 (x.idx : Int), .int .i64 x.kind, .string x.data], .int .i64 k]) ∧ ∃ v', DAt B w' p { z with vg := v' } { m with g := g } ∧ Grow p z { z with vg := v' } w w' := by
  obtain ⟨vs, nx, mt, fr, h⟩ := h
  have hes := f.es
  have := RefF.radd_any h.log f.fine m.term kind d f.term k0 k1 hd (by omega)
  rw [hr] at this
  refine this.mono ?_
  rintro e w' ⟨rfl, hl⟩
  obtain ⟨v', h', g'⟩ := NodeAt.logged h hl
  exact ⟨rfl, v', ⟨vs, nx, mt, ⟨fr.v, fr.n, fr.t, fr.nl, fr.ml⟩, h'⟩, g'⟩
set_option maxHeartbeats 4000000 in
theorem dadd_any (h : DAt B w p z m) (f : NdB N m) (hr : m.role = 2) (hN : N ≤ 800000000) (kind : Int) (d : ByteArray) (k0 : -9223372036854775808 ≤ kind) (k1 : kind ≤ 9223372036854775807) (hd : d.size ≤ 9223372036854775807) :
    Calls Tryz.prog 76 #[.pointer (some ⟨p, 0, none⟩), .int .i64 kind, .string d] w fun e w' => e = .returned (.tuple #[.int .u64 ((add m kind d).1.1 : Int), .int .i64 (add m kind d).1.2]) ∧ LeftD B w p z (add m kind d).2 w' := by
  have c1 := DAt.c1 h
  have c3 := DAt.c3 h
  have hplt := DAt.plt h
  obtain ⟨⟨⟨x, k⟩, g⟩, hR⟩ : ∃ R, Rlog.add m.g m.term kind d = R := ⟨_, rfl⟩
  have hA0 : Below w.heap.size w (w.alloc (.cells #[.int .u64 0, .int .u64 0, .int .i64 0, .string ⟨#[]⟩] 81)).drew := ((Below.refl _ w).alloc (Nat.le_refl _) _).drew
  have hnew := heap_alloc_new w (.cells #[.int .u64 0, .int .u64 0, .int .i64 0, .string ⟨#[]⟩] 81)
  have hl1 := dlog_add h.drew f (by omega) kind d k0 k1 hd hR
  have hl2 := dlog_add (h.below hA0) f (by omega) kind d k0 k1 hd hR
  obtain ⟨m1, hm1⟩ : ∃ m1 : Nd, { m with g := g } = m1 := ⟨_, rfl⟩
  have hMt : m1.term = m.term := by rw [← hm1]
  have HA1 : Hid (Calls Tryz.prog 109 #[.pointer (some ⟨z.q, 0, none⟩), .int .u64 (m.term : Int), .int .i64 kind, .string d] w.drew fun e w' =>
      e = .returned (.tuple #[.agg #[.int .u64 (x.term : Int), .int .u64 (x.idx : Int), .int .i64 x.kind, .string x.data], .int .i64 k]) ∧ ∃ z', DAt B w' p z' m1 ∧ Grow p z z' w w') :=
    hl1.mono fun e w' ⟨e1, v', e2, e3⟩ => ⟨e1, { z with vg := v' }, hm1 ▸ e2, Grow.afterBelow ((Below.refl _ w).drew) e3⟩
  have HA2 : Hid (Calls Tryz.prog 109 #[.pointer (some ⟨z.q, 0, none⟩), .int .u64 (m.term : Int), .int .i64 kind, .string d] (w.alloc (.cells #[.int .u64 0, .int .u64 0, .int .i64 0, .string ⟨#[]⟩] 81)).drew fun e w' =>
      e = .returned (.tuple #[.agg #[.int .u64 (x.term : Int), .int .u64 (x.idx : Int), .int .i64 x.kind, .string x.data], .int .i64 k]) ∧ ∃ z', DAt B w' p z' m1 ∧ Grow p z z' w w' ∧ w'.heap[w.heap.size]? = some (.cells #[.int .u64 0, .int .u64 0, .int .i64 0, .string ⟨#[]⟩] 81 (0, 0)) ∧ ¬ Mine p z' w.heap.size ∧ ∀ y ∈ z'.Z, Off (fun q => q = w.heap.size) y.2.A y.2.n) := by
    refine hl2.mono fun e w' ⟨e1, v', e2, e3⟩ => ⟨e1, { z with vg := v' }, hm1 ▸ e2, Grow.afterBelow hA0 e3, ?_, ?_, ?_⟩
    · exact e3.block (k := w.heap.size) hnew fun hm => by have := (DAt.mine_lt h hm).2; omega
    · intro hm
      rcases e3.new _ hm with h1 | h1
      · have := (DAt.mine_lt h h1).2; omega
      · have : (w.alloc (.cells #[.int .u64 0, .int .u64 0, .int .i64 0, .string ⟨#[]⟩] 81)).drew.heap.size = w.heap.size + 1 := by simp
        omega
    · intro y hy hn ad ha hq
      obtain ⟨ad', ha', hb, _⟩ := (DAt.fit h y hy).re.2 hn
      rw [ha] at ha'
      cases ha'
      omega
  have HK : Hid (∀ W z', DAt B W p z' m1 → z'.q = z.q → W.cell? ⟨p, 3, none⟩ = some (.pointer (some ⟨z.q, 0, none⟩)) ∧ W.cell? ⟨p, 1, none⟩ = some (.int .u64 (m.term : Int))) := fun W z' hp hq => ⟨by rw [← hq]; exact DAt.c3 hp, by rw [← hMt]; exact DAt.c1 hp⟩
  have HK0 : Hid (∀ W, Below w.heap.size w W → W.cell? ⟨p, 3, none⟩ = some (.pointer (some ⟨z.q, 0, none⟩)) ∧ W.cell? ⟨p, 1, none⟩ = some (.int .u64 (m.term : Int))) := fun W hb => ⟨DAt.c3 (h.below hb), DAt.c1 (h.below hb)⟩
  have HW0 : Hid (Below w.heap.size w w.drew) := (Below.refl _ w).drew
  have HA0 : Hid (Below w.heap.size w (w.alloc (.cells #[.int .u64 0, .int .u64 0, .int .i64 0, .string ⟨#[]⟩] 81))) := (Below.refl _ w).alloc (Nat.le_refl _) _
  obtain ⟨T, hT⟩ : ∃ T, m.term = T := ⟨_, rfl⟩
  rw [hT] at c1 HA1 HA2 HK HK0
  have H := Lib.hid h
  have F := Lib.hid f
  have HR := Lib.hid hR
  have HM1 := Lib.hid hm1
  have HRole := Lib.hid hr
  obtain ⟨⟨⟨J, E⟩, M⟩, hM⟩ : ∃ R, Nod.add m kind d = R := ⟨_, rfl⟩
  rw [hM]
  simp only
  have HM := Lib.hid hM
  clear hA0 hnew hl1 hl2 hm1 hMt hT h f hR hr hM
  go_enter Tryz.func76, Tryz.ntmps76
  go_upto_region 1 with fail
  go_cut [8, 9] from 8 to 24 (fun a b wx => Mid B w p z m1 x k a b wx)
  case first =>
    go_wp2_with fail
    go_region_held3 (fun W => W.cell? ⟨p, 3, none⟩ = some (.pointer (some ⟨z.q, 0, none⟩)) ∧ W.cell? ⟨p, 1, none⟩ = some (.int .u64 (T : Int)))
      (first
        | (with_reducible exact HK0.out _ HW0.out)
        | (with_reducible exact HK0.out _ HA0.out.drew)
        | (with_reducible exact HK0.out _ HA0.out)
        | (with_reducible exact HKA.out)
        | (with_reducible exact HKB.out _)
        | (with_reducible exact HKS.out))
      (first
        | (go_at_call 109
           with_reducible refine HA1.out.mono ?_
           rintro e wA ⟨rfl, z1, h1, g1⟩
           have HKA := Lib.hid (HK.out _ _ h1 g1.q)
           have HKB := Lib.hid (fun o => HK.out _ _ (h1.below ((Below.refl _ wA).alloc (Nat.le_refl _) o)) g1.q)
           have HMid := Lib.hid (mid_late (x := x) (k := k) h1 g1)
           clear h1 g1)
        | (go_at_call 109
           with_reducible refine HA2.out.mono ?_
           rintro e wA ⟨rfl, z1, h1, g1, hbx, hnm, hoff⟩
           have HKA := Lib.hid (HK.out _ _ h1 g1.q)
           have x0 : wA.cell? ⟨w.heap.size, 0, none⟩ = some (.int .u64 0) := cell_at hbx 0
           have x1 : wA.cell? ⟨w.heap.size, 1, none⟩ = some (.int .u64 0) := cell_at hbx 1
           have x2 : wA.cell? ⟨w.heap.size, 2, none⟩ = some (.int .i64 0) := cell_at hbx 2
           have x3 : wA.cell? ⟨w.heap.size, 3, none⟩ = some (.string ⟨#[]⟩) := cell_at hbx 3
           have y0 := free_at hbx 0
           have y1 := free_at hbx 1
           have y2 := free_at hbx 2
           have y3 := free_at hbx 3
           obtain ⟨s1, s2⟩ := EBox.set hbx x
           have h2 : DAt B _ p z1 m1 := DAt.keep h1 s2 (fun b hb e => hnm (e ▸ hb)) hoff
           have HKS := Lib.hid (HK.out _ _ h2 g1.q)
           have HMid : Hid (Mid B w p z m1 x k (.pointer (some ⟨w.heap.size, 0, none⟩)) (.int .i64 k) _) := Lib.hid ⟨w.heap.size, z1, rfl, rfl, s1, h2, g1.boxed (Nat.le_refl _) s2, Nat.le_refl _, hnm⟩
           clear hbx hnm hoff h1 h2 g1 s1 s2))
    all_goals go_wp2_with fail
    all_goals go_meet
    all_goals (with_reducible exact HMid.out)
  case rest =>
    obtain ⟨r, z1, rfl, rfl, hbx, h1, g1, hr, hnm⟩ := hcut
    have hrl := lt_at hbx.blk
    cases hc : canAdd m kind d with
    | false =>
      have hcc : addOk m.g m.term kind d = false := hc
      have e1 : ((x, k), g) = ((noEnt, 1), m.g) := by rw [← HR.out]; unfold Rlog.add; rw [hcc, if_neg (by simp)]
      have e2 : ((J, E), M) = ((0, 1), m) := by rw [← HM.out]; unfold Nod.add; rw [hc, if_neg (by simp)]
      cases e1
      have hJ : J = 0 ∧ E = 1 ∧ M = m := by cases e2; exact ⟨rfl, rfl, rfl⟩
      have HJ := Lib.hid hJ
      have h1' : DAt B wc p z1 m := by have := h1; rw [← HM1.out] at this; exact this
      have HE := Lib.hid (show LeftD B w p z m wc from ⟨z1, h1', g1⟩)
      clear h1 h1' g1 hbx hnm hc hcc e2 hJ
      go_wp2
      go_ret2
      obtain ⟨j1, j2, j3⟩ := HJ.out
      rw [j1, j2, j3]
      exact ⟨rfl, HE.out⟩
    | true =>
      have hcc : addOk m.g m.term kind d = true := hc
      have e1 : ((x, k), g) = ((ent m kind d, 0), { m.g with es := m.g.es ++ [ent m kind d] }) := by rw [← HR.out]; unfold Rlog.add; rw [if_pos hcc]; rfl
      have e2 : ((J, E), M) = (((ent m kind d).idx, 0), advance (beat (added m kind d))) := by rw [← HM.out]; unfold Nod.add; rw [if_pos hc]
      have F1 := logd_b F.out kind d k0 k1 hd hc
      have F2 := added_b F.out HRole.out (by omega) kind d k0 k1 hd hc
      have hId := F.out.id
      have e3 : m1 = { m with g := (added m kind d).g } := by rw [← HM1.out]; cases e1; rfl
      have e4 : added m kind d = { keep m1 [ent m kind d] with mat := m1.mat.set m1.id (ent m kind d).idx } := by rw [e3]; rfl
      have e5 : m1.id = m.id := by rw [e3]
      have hr1 : m1.role = 2 := by rw [e3]; exact HRole.out
      have e6 : x = ent m kind d ∧ k = 0 := by cases e1; exact ⟨rfl, rfl⟩
      rw [← e3] at F1
      rw [← e6.1] at e4 e2
      obtain ⟨M2, hM2⟩ : ∃ M2, added m kind d = M2 := ⟨_, rfl⟩
      rw [hM2] at e4 F2 e2
      have hr2 : M2.role = 2 := by rw [e4]; exact hr1
      have hJ : J = x.idx ∧ E = 0 ∧ M = advance (beat M2) := by cases e2; exact ⟨rfl, rfl, rfl⟩
      have HJ := Lib.hid hJ
      obtain ⟨e6, rfl⟩ := e6
      have HE4 := Lib.hid e4
      have HF1 := Lib.hid F1
      have HF2 := Lib.hid F2
      have H1 := Lib.hid h1
      have G1 := Lib.hid g1
      have HNm := Lib.hid hnm
      have HBx := Lib.hid hbx
      have HE5 := Lib.hid e5
      have HR1 := Lib.hid hr1
      have HR2 := Lib.hid hr2
      have b0 : wc.cell? ⟨r, 0, none⟩ = some (.int .u64 (x.term : Int)) := by rw [cell_at hbx.blk]; rfl
      have b1 : wc.cell? ⟨r, 1, none⟩ = some (.int .u64 (x.idx : Int)) := by rw [cell_at hbx.blk]; rfl
      have b2 : wc.cell? ⟨r, 2, none⟩ = some (.int .i64 x.kind) := by rw [cell_at hbx.blk]; rfl
      have b3 : wc.cell? ⟨r, 3, none⟩ = some (.string x.data) := by rw [cell_at hbx.blk]; rfl
      have hal : ∀ o, Below wc.heap.size wc (wc.alloc o) := fun o => ((Below.refl _ wc).alloc (Nat.le_refl _) o)
      have hkeep : Calls Tryz.prog 106 #[.pointer (some ⟨p, 0, none⟩), .slice (some ⟨wc.heap.size, 0, none⟩) 1 1] (wc.alloc (.cells #[.int .u64 (x.term : Int), .int .u64 (x.idx : Int), .int .i64 x.kind, .string x.data] 81)) (DoesD B (wc.alloc (.cells #[.int .u64 (x.term : Int), .int .u64 (x.idx : Int), .int .i64 x.kind, .string x.data] 81)) p z1 (keep m1 [x])) :=
        dkeep_some (h1.below (hal _)) F1 (by omega) _ 1 1 [x] ((RlgWalkH.ent_new wc x 81).more (by simp)) (by decide) (by decide)
      have HKp := Lib.hid hkeep
      have HAl := Lib.hid hal
      have HS0 : Hid (∀ W : World, W.heap[r]? = wc.heap[r]? → W.cell? ⟨r, 1, none⟩ = some (.int .u64 (x.idx : Int))) := fun W hW => (World.cell?_of_block hW).trans b1
      clear e1 e2 e3 e4 F1 F2 hM2 h1 g1 hnm hbx hc hcc e5 hkeep hal hJ e6 hr1 hr2
      go_wp2_with fail
      with_reducible refine HKp.out.mono ?_
      rintro e wK ⟨rfl, z2, ⟨vs2, nx2, mt2, fr2, h2⟩, g2⟩
      have hbk : wK.heap[r]? = wc.heap[r]? := (g2.only.block r (Nat.lt_of_lt_of_le hrl (HAl.out _).size) HNm.out).trans ((HAl.out _).block r hrl)
      have HBK := Lib.hid hbk
      have HN2 : Hid (¬ Mine p z2 r) := WalkG.Grow.out (Grow.afterBelow (HAl.out _) g2) HNm.out hrl
      have G2 := Lib.hid (G1.out.trans (Grow.afterBelow (HAl.out _) g2))
      have q0 := DN.c0 h2
      have fm := fun i => NodeAt.free h2 i
      have qm := DN.atM h2 fr2 (k := m.id) hId
      have hkp := NodeAt.plt h2
      obtain ⟨h3, g3⟩ := DN.setTo h2 (15 + m.id) (.int .u64 (x.idx : Int)) M2 vs2 nx2 (mt2.set m.id x.idx) (by rw [dcs_set_mt fr2.nl fr2.ml hId, HE4.out]; rfl) (by rw [HE4.out]) (by rw [HE4.out]) (by rw [HE4.out])
      have hD3 : DAt B (wK.setCell ⟨p, 15 + m.id, none⟩ (.int .u64 (x.idx : Int))) p z2 M2 := by
        refine ⟨vs2, nx2, mt2.set m.id x.idx, ⟨fun e => ?_, fun e => ?_, fun e => ?_, fr2.nl, by rw [List.length_set]; exact fr2.ml⟩, h3⟩
        · rw [HR2.out] at e; cases e
        · rw [HE4.out]; exact fr2.n HR1.out
        · rw [fr2.t HR1.out, HE4.out, HE5.out]; rfl
      rw [show (keep m1 [x]).id = m.id from HE5.out] at q0
      have q1 : wK.cell? ⟨r, 1, none⟩ = some (.int .u64 (x.idx : Int)) := HS0.out _ hbk
      have hbk3 : (wK.setCell ⟨p, 15 + m.id, none⟩ (.int .u64 (x.idx : Int))).heap[r]? = wc.heap[r]? := by
        rw [Below.heap_setCell _ _ _ _ (show r ≠ p from fun e => HNm.out (.inl e))]
        exact HBK.out
      have hidI : (m.id : Int) < 7 := by omega
      have hidJ : (0 : Int) ≤ (m.id : Int) := by omega
      have f15 := fm (15 + m.id)
      have H3 := Lib.hid hD3
      have G3 := Lib.hid (G2.out.trans g3)
      have HBK3 := Lib.hid hbk3
      have HN3 := HN2
      obtain ⟨I, hI⟩ : ∃ I, m.id = I := ⟨_, rfl⟩
      rw [hI] at q0 qm hidI hidJ f15 H3 G3 HBK3
      clear h2 h3 hD3 g2 g3 hbk3 fm hId HE5 hI hbk fr2
      go_wp2_with fail
      go_region
      generalize (wK.setCell ⟨p, 15 + I, none⟩ (.int .u64 (x.idx : Int))) = w3 at H3 G3 HBK3 ⊢
      have HBD : Hid (Below w3.heap.size w3 w3.drew) := (Below.refl _ w3).drew
      go_wp2_with fail
      with_reducible refine (dbeat_any (DAt.below H3.out HBD.out) HF2.out (by omega)).mono ?_
      rintro e w4 ⟨rfl, z4, h4, g4⟩
      have hr3 : r < w3.heap.size := lt_at (HBK3.out.trans HBx.out.blk)
      have hb4 : w4.heap[r]? = wc.heap[r]? := (g4.only.block r hr3 HN3.out).trans HBK3.out
      have hn4 := WalkG.Grow.out g4 HN3.out hr3
      have hr4 : r < w4.heap.size := Nat.lt_of_lt_of_le hr3 g4.size
      have H4 := Lib.hid h4
      have G4 := Lib.hid (G3.out.trans (Grow.afterBelow HBD.out g4))
      clear h4 g4
      go_wp2_with fail
      with_reducible refine (dadvance_any H4.out (beat_b HF2.out) (by omega) (by rw [beat_role]; exact HR2.out)).mono ?_
      rintro e w5 ⟨rfl, z5, h5, g5⟩
      have hb5 : w5.heap[r]? = wc.heap[r]? := (g5.only.block r hr4 hn4).trans hb4
      have q5 := HS0.out w5 hb5
      have H5 := Lib.hid h5
      have G5 := Lib.hid (G4.out.trans g5)
      clear h5 g5
      go_wp2
      go_ret2
      obtain ⟨j1, j2, j3⟩ := HJ.out
      rw [j1, j2, j3]
      exact ⟨rfl, z5, H5.out, G5.out⟩
end
end Go.Proofs.YtojmbbldehbjfaaGreat.DWe
set_option linter.unusedVariables false
namespace Go.Proofs.YtojmbbldehbjfaaGreat.DWf
open Go.RowKit Go.Proofs.YtojmbbldehbjfaaGreat.Kit Go.Proofs.YtojmbbldehbjfaaGreat.Blocks Go.Proofs.YtojmbbldehbjfaaGreat.Rlog Go.Proofs.YtojmbbldehbjfaaGreat.Ents Go.Proofs.YtojmbbldehbjfaaGreat.LogAt Go.Proofs.YtojmbbldehbjfaaGreat.Nod Go.Proofs.YtojmbbldehbjfaaGreat.NodAt Go.Proofs.YtojmbbldehbjfaaGreat.AppL Go.Proofs.YtojmbbldehbjfaaGreat.DAt Go.Proofs.YtojmbbldehbjfaaGreat.DWa Go.Proofs.YtojmbbldehbjfaaGreat.DWb Go.Proofs.YtojmbbldehbjfaaGreat.DWc Go.Proofs.YtojmbbldehbjfaaGreat.DWd Go.Proofs.YtojmbbldehbjfaaGreat.DWe
open Go.Proofs.YtojmbbldehbjfaaGreat.Told (unums)
open Go.Proofs.YtojmbbldehbjfaaGreat.Quorum (mem size need sound maj node has turn change)

/-- The first k of seven are X. -/
structure Fills (X k : Nat) (l : List Nat) : Prop where
  len : l.length = 7
  is : ∀ j, j < k → l[j]? = some X
theorem Fills.zero {X : Nat} {l : List Nat} (h : l.length = 7) : Fills X 0 l := ⟨h, fun j hj => absurd hj (by omega)⟩
theorem Fills.next {X k : Nat} {l : List Nat} (h : Fills X k l) (hk : k < 7) : Fills X (k + 1) (l.set k X) := by
  refine ⟨by rw [List.length_set]; exact h.len, fun j hj => ?_⟩
  have := h.len
  by_cases e : k = j
  · subst e; rw [List.getElem?_set_self (by omega)]
  · rw [List.getElem?_set_ne e]; exact h.is j (by omega)
theorem Fills.all {X : Nat} {l : List Nat} (h : Fills X 7 l) : l = evens X := by
  have hl := h.len
  match l, hl with
  | [a, b, c, d, e, f, g], _ =>
    have h0 := h.is 0 (by decide)
    have h1 := h.is 1 (by decide)
    have h2 := h.is 2 (by decide)
    have h3 := h.is 3 (by decide)
    have h4 := h.is 4 (by decide)
    have h5 := h.is 5 (by decide)
    have h6 := h.is 6 (by decide)
    simp at h0 h1 h2 h3 h4 h5 h6
    subst h0 h1 h2 h3 h4 h5 h6
    rfl
section
variable {B p N : Nat} {z : Seat} {m : Nd} {w : World}
set_option maxHeartbeats 4000000 in
theorem dlead_any (h : DAt B w p z m) (f : NdB N m) (hN : N ≤ 800000000) : Calls Tryz.prog 68 #[.pointer (some ⟨p, 0, none⟩)] w (DoesD B w p z (lead m)) := by
  have H := Lib.hid h
  have hmem := dmembers_any h f
  have hv := f.votes
  have hcl := cfg_lt f
  obtain ⟨A, hA⟩ : ∃ A, cfg m = A := ⟨_, rfl⟩
  obtain ⟨S, hS⟩ : ∃ S, since m = S := ⟨_, rfl⟩
  rw [hA, hS] at hmem
  have HMem := Lib.hid hmem
  by_cases hr : m.role = 1
  · have hmaj := fun W => QuoWalkD.rmaj_any A m.votes (by omega) (by omega) W
    obtain ⟨b, hb⟩ : ∃ b, maj A m.votes = b := ⟨_, rfl⟩
    rw [hb] at hmaj
    obtain ⟨V, hV⟩ : ∃ V, m.votes = V := ⟨_, rfl⟩
    rw [hV] at hmaj
    obtain ⟨M, hM⟩ : ∃ M, lead m = M := ⟨_, rfl⟩
    rw [hM]
    have F := Lib.hid f
    have HMaj := Lib.hid hmaj
    have HMM : Hid (M = if b = true then (Nod.add (leads m) 0 ByteArray.empty).2 else m) := Lib.hid (by rw [← hM, ← hb, ← hA]; unfold lead; by_cases e : maj (cfg m) m.votes = true <;> simp [hr, e])
    have HRole := Lib.hid hr
    have HV := Lib.hid hV
    clear hmem hmaj hb hA hV hM h f hr hv hcl hS
    go_enter Tryz.func68, Tryz.ntmps68
    go_wp2_with fail
    with_reducible refine HMem.out.mono ?_
    rintro e w1 ⟨rfl, hb1⟩
    obtain ⟨vs, nx, mt, fr, h1⟩ := H.out.below hb1
    have c4 := DN.c4 h1
    have c7 := DN.c7 h1
    have hplt := h1.plt
    rw [HRole.out] at c4
    rw [fr.v HRole.out, HV.out] at c7
    have c4' : w1.cell? ⟨p, 4, none⟩ = some (.int .i64 1) := c4
    have H1 := Lib.hid h1
    have HFr := Lib.hid fr
    have HB1 := Lib.hid hb1
    clear c4 h1 fr hb1
    go_wp2_with fail
    with_reducible refine (HMaj.out _).mono ?_
    rintro e w2 ⟨rfl, hb2⟩
    have HB2 : Hid (Below w.heap.size w w2) := Lib.hid (HB1.out.trans (hb2.mono HB1.out.size))
    cases b with
    | false =>
      have HM2 : Hid (M = m) := Lib.hid (by rw [HMM.out]; simp)
      clear hb2 HMM
      go_wp2
      (try simp only [Exit.inBlock, Exit.then]); refine bodyPost_ret (results_none rfl _ _ _) rfl ?_
      rw [HM2.out]
      exact ⟨rfl, LeftD.of_below H.out HB2.out⟩
    | true =>
      have HM2 : Hid (M = (Nod.add (leads m) 0 ByteArray.empty).2) := Lib.hid (by rw [HMM.out, if_pos rfl])
      have h2 := NodeAt.below H1.out hb2
      have d0 := DN.c0 h2
      have e4 := DN.c4 h2
      have e5 := DN.c5 h2
      have g4 := NodeAt.free h2 4
      have g5 := NodeAt.free h2 5
      have hpl2 := NodeAt.plt h2
      obtain ⟨h3, k3⟩ := DN.setTo h2 4 (.int .i64 2) { m with role := 2 } vs nx mt rfl rfl rfl rfl
      obtain ⟨h4, k4⟩ := DN.setTo h3 5 (.int .i64 (m.id : Int)) { m with role := 2, leader := (m.id : Int) } vs nx mt rfl rfl rfl rfl
      have d3 := DN.c3 h4
      have hlast := RefB.rlast_any (NodeAt.log h4)
      obtain ⟨LI, hLI⟩ : ∃ LI, (last m.g).1 = LI := ⟨_, rfl⟩
      obtain ⟨LT, hLT⟩ : ∃ LT, (last m.g).2 = LT := ⟨_, rfl⟩
      have hlb : LI + 1 < 18446744073709551616 := by have := F.out.top; omega
      simp only [hLI, hLT] at hlast
      obtain ⟨m2, hm2⟩ : ∃ m2 : Nd, { m with role := 2, leader := (m.id : Int) } = m2 := ⟨_, rfl⟩
      rw [hm2] at h4
      obtain ⟨I, hI⟩ : ∃ I, m.id = I := ⟨_, rfl⟩
      rw [hI] at d0 d3 hlast h4 k4
      have HLast := Lib.hid hlast
      have H4 := Lib.hid h4
      have G4 := Lib.hid ((Grow.of_below z HB2.out).trans (k3.trans k4))
      have HLI := Lib.hid hLI
      have HM3 := Lib.hid hm2
      clear h2 h3 h4 k3 k4 hlast hLI hLT HMM hm2 hI hb2 c7
      go_wp2_with fail
      with_reducible refine HLast.out.mono ?_
      rintro e w4 ⟨rfl, hb4⟩
      have H5 := Lib.hid (NodeAt.below H4.out hb4)
      have G5 := Lib.hid (G4.out.thenBelow hb4)
      have hw1 : IntKind.u64.wrap ((LI : Int) + 1) = ((LI + 1 : Nat) : Int) := by rw [show (LI : Int) + 1 = ((LI + 1 : Nat) : Int) by omega]; exact IntWalk.u64_in _ (by omega)
      obtain ⟨X, hX⟩ : ∃ X, LI + 1 = X := ⟨_, rfl⟩
      rw [hX] at hw1
      have HX := Lib.hid hX
      clear hb4 hX
      go_wp2
      go_loopw [6] (fun i wr => ∃ (k : Nat) (nx mt : List Nat), k ≤ 7 ∧ i = .int .i64 (k : Int) ∧ Hid (Fills X k nx) ∧ Hid (Fills 0 k mt) ∧ Hid (DN B wr p z m2 vs nx mt) ∧ Hid (Grow p z z w wr)) (fun i _ => 7 - (intOf i).toNat)
      case atStart => exact ⟨0, nx, mt, by omega, rfl, Fills.zero HFr.out.nl, Fills.zero HFr.out.ml, H5, G5⟩
      case round =>
        obtain ⟨k, nx', mt', hk, rfl, HFn, HFm, HK, HG⟩ := hrel
        by_cases hk7 : k < 7
        · have q1 : wr.cell? ⟨p, 8 + k, none⟩ = some (.int .u64 (told nx' k : Int)) := HK.out.at_ (dcs_nx HFn.out.len hk7)
          have f1 := NodeAt.free HK.out (8 + k)
          have hp1 := NodeAt.plt HK.out
          obtain ⟨h5, k5⟩ := DN.setTo HK.out (8 + k) (.int .u64 (X : Int)) m2 vs (nx'.set k X) mt' (dcs_set_nx HFn.out.len hk7 X) rfl rfl rfl
          have hn5 : (nx'.set k X).length = 7 := (HFn.out.next hk7).len
          have q2 : (wr.setCell ⟨p, 8 + k, none⟩ (.int .u64 (X : Int))).cell? ⟨p, 15 + k, none⟩ = some (.int .u64 (told mt' k : Int)) := h5.at_ (dcs_mt hn5 HFm.out.len hk7)
          have f2 := NodeAt.free h5 (15 + k)
          have hp2 := NodeAt.plt h5
          obtain ⟨h6, k6⟩ := DN.setTo h5 (15 + k) (.int .u64 ((0 : Nat) : Int)) m2 vs (nx'.set k X) (mt'.set k 0) (dcs_set_mt hn5 HFm.out.len hk7 0) rfl rfl rfl
          have H6 : Hid (DN B ((wr.setCell ⟨p, 8 + k, none⟩ (.int .u64 (X : Int))).setCell ⟨p, 15 + k, none⟩ (.int .u64 0)) p z m2 vs (nx'.set k X) (mt'.set k 0)) := h6
          have G6 : Hid (Grow p z z w ((wr.setCell ⟨p, 8 + k, none⟩ (.int .u64 (X : Int))).setCell ⟨p, 15 + k, none⟩ (.int .u64 0))) := (HG.out.trans k5).trans k6
          have HN1 := Lib.hid (HFn.out.next hk7)
          have HN2 := Lib.hid (HFm.out.next hk7)
          have hkI : (k : Int) < 7 := by omega
          have hkJ : (0 : Int) ≤ (k : Int) := by omega
          clear h5 k5 h6 k6 hn5
          go_wp2
          go_roundw
          case rel => exact ⟨k + 1, _, _, by omega, by go_num, HN1, HN2, H6, G6⟩
          case measure => simp [intOf]; omega
        · obtain rfl : k = 7 := by omega
          have e1 := HFn.out.all
          have e2 : mt' = zeros := HFm.out.all
          have hd : DAt B wr p z (leads m) := by
            refine ⟨vs, nx', mt', ⟨fun e => ?_, fun _ => ?_, fun _ => ?_, HFn.out.len, HFm.out.len⟩, ?_⟩
            · have : (leads m).role = 2 := rfl
              rw [this] at e; cases e
            · rw [e1]; show _ = evens ((last m.g).1 + 1); rw [HLI.out, HX.out]
            · rw [e2]; rfl
            · have := HK.out
              rw [← HM3.out] at this
              exact this
          have hadd : Calls Tryz.prog 76 #[.pointer (some ⟨p, 0, none⟩), .int .i64 0, .string ⟨#[]⟩] wr fun e w' => e = .returned (.tuple #[.int .u64 ((add (leads m) 0 ByteArray.empty).1.1 : Int), .int .i64 (add (leads m) 0 ByteArray.empty).1.2]) ∧ LeftD B wr p z (add (leads m) 0 ByteArray.empty).2 w' :=
            dadd_any hd (leads_b F.out (by omega)) rfl hN 0 ByteArray.empty (by decide) (by decide) (by decide)
          have HAdd := Lib.hid hadd
          clear hd hadd e1 e2
          go_wp2_with fail
          with_reducible refine HAdd.out.mono ?_
          rintro e w7 ⟨rfl, z7, h7, g7⟩
          have H7 := Lib.hid h7
          have G7 := Lib.hid (HG.out.trans g7)
          clear h7 g7
          go_wp2
          go_end0
          rw [HM2.out]
          exact ⟨rfl, z7, H7.out, G7.out⟩
  · have hl : lead m = m := by unfold lead; rw [if_neg (fun e => hr e.1)]
    rw [hl]
    obtain ⟨R, hR⟩ : ∃ R, m.role = R := ⟨_, rfl⟩
    rw [hR] at hr
    have hne : ((R : Int) != 1) = true := by simp; omega
    have HR := Lib.hid hR
    clear hl h f hR hmem hA hS hv hcl
    go_enter Tryz.func68, Tryz.ntmps68
    go_wp2_with fail
    with_reducible refine HMem.out.mono ?_
    rintro e w1 ⟨rfl, hb1⟩
    obtain ⟨vs, nx, mt, fr, h1⟩ := H.out.below hb1
    have c4 := DN.c4 h1
    have hplt := h1.plt
    rw [HR.out] at c4
    have HB1 := Lib.hid hb1
    clear h1 fr hb1
    go_wp2
    (try simp only [Exit.inBlock, Exit.then]); refine bodyPost_ret (results_none rfl _ _ _) rfl ?_
    exact ⟨rfl, LeftD.of_below H.out HB1.out⟩
theorem DAt.c4 (h : DAt B w p z m) : w.cell? ⟨p, 4, none⟩ = some (.int .i64 (m.role : Int)) := by
  obtain ⟨vs, nx, mt, fr, h⟩ := h
  exact DN.c4 h
theorem DAt.c6 (h : DAt B w p z m) : w.cell? ⟨p, 6, none⟩ = some (.int .u64 (m.commit : Int)) := by
  obtain ⟨vs, nx, mt, fr, h⟩ := h
  exact DN.c6 h
theorem dpropose_any (h : DAt B w p z m) (f : NdB N m) (hN : N ≤ 800000000) (d : ByteArray) (hd : d.size ≤ 9223372036854775807) :
    Calls Tryz.prog 38 #[.pointer (some ⟨p, 0, none⟩), .string d] w fun e w' => e = .returned (.tuple #[.int .u64 ((propose m d).1.1 : Int), .int .i64 (propose m d).1.2]) ∧ LeftD B w p z (propose m d).2 w' := by
  have c4 := DAt.c4 h
  have hplt := DAt.plt h
  by_cases hr : m.role = 2
  · have hp : propose m d = Nod.add m 1 d := by unfold propose; rw [if_pos hr]
    rw [hp]
    have ha := dadd_any h f hr hN 1 d (by decide) (by decide) hd
    obtain ⟨⟨⟨J, E⟩, M⟩, hM⟩ : ∃ R, Nod.add m 1 d = R := ⟨_, rfl⟩
    rw [hM] at ha ⊢
    simp only at ha ⊢
    rw [hr] at c4
    have c4' : w.cell? ⟨p, 4, none⟩ = some (.int .i64 2) := c4
    have HA := Lib.hid ha
    clear hp ha hM h f hr c4
    go_enter Tryz.func38, Tryz.ntmps38
    go_wp2_with fail
    with_reducible refine HA.out.mono ?_
    rintro e w1 ⟨rfl, hl⟩
    have HL := Lib.hid hl
    clear hl
    go_wp2
    go_ret2
    exact ⟨rfl, HL.out⟩
  · have hp : propose m d = ((0, 30), m) := by unfold propose; rw [if_neg hr]
    rw [hp]
    obtain ⟨R, hR⟩ : ∃ R, m.role = R := ⟨_, rfl⟩
    rw [hR] at c4 hr
    have hne : ((R : Int) != 2) = true := by simp; omega
    have H := Lib.hid h
    clear hp h f hR
    go_enter Tryz.func38, Tryz.ntmps38
    go_wp2
    go_ret2
    exact ⟨rfl, LeftD.refl H.out⟩
theorem dcompact_any (h : DAt B w p z m) (f : NdB N m) (hN : N ≤ 1000000000) {i : Nat} (hi : i < 18446744073709551616) (d : ByteArray) :
    Calls Tryz.prog 40 #[.pointer (some ⟨p, 0, none⟩), .int .u64 (i : Int), .string d] w fun e w' => e = .returned (.int .i64 (compacts m i d).1) ∧ LeftD B w p z (compacts m i d).2 w' := by
  have c3 := DAt.c3 h
  have c6 := DAt.c6 h
  have hplt := DAt.plt h
  have hes := f.es
  by_cases hc : m.commit < i
  · have hp : compacts m i d = (1, m) := by unfold compacts; rw [if_pos hc]
    rw [hp]
    have H := Lib.hid h
    obtain ⟨C, hC⟩ : ∃ C, m.commit = C := ⟨_, rfl⟩
    rw [hC] at c6 hc
    clear hp h f hC
    go_enter Tryz.func40, Tryz.ntmps40
    go_wp2
    go_ret
    exact ⟨rfl, LeftD.refl H.out⟩
  · have hp : compacts m i d = ((compact m.g i d).1, { m with g := (compact m.g i d).2 }) := by unfold compacts; rw [if_neg hc]
    rw [hp]
    have hcc : Calls Tryz.prog 80 #[.pointer (some ⟨z.q, 0, none⟩), .int .u64 (i : Int), .string d] w fun e w' => e = .returned (.int .i64 (compact m.g i d).1) ∧ LeftD B w p z { m with g := (compact m.g i d).2 } w' := by
      obtain ⟨vs, nx, mt, fr, h⟩ := h
      refine (RefG.rcompact_any h.log f.fine i d (by omega)).mono ?_
      rintro e w' ⟨rfl, hl⟩
      obtain ⟨v', h', g'⟩ := NodeAt.logged h hl
      exact ⟨rfl, _, ⟨vs, nx, mt, ⟨fr.v, fr.n, fr.t, fr.nl, fr.ml⟩, h'⟩, g'⟩
    obtain ⟨⟨E, G'⟩, hM⟩ : ∃ R, compact m.g i d = R := ⟨_, rfl⟩
    rw [hM] at hcc ⊢
    simp only at hcc ⊢
    obtain ⟨C, hC⟩ : ∃ C, m.commit = C := ⟨_, rfl⟩
    rw [hC] at c6 hc
    have HA := Lib.hid hcc
    clear hp hcc hM h f hC
    go_enter Tryz.func40, Tryz.ntmps40
    go_wp2_with fail
    with_reducible refine HA.out.mono ?_
    rintro e w1 ⟨rfl, hl⟩
    have HL := Lib.hid hl
    clear hl
    go_wp2
    go_ret
    exact ⟨rfl, HL.out⟩
/-- With what is free still free. -/
theorem dfollow_any (h : DAt B w p z m) (f : NdB N m) {t : Nat} (ht : t < 18446744073709551616) : Calls Tryz.prog 66 #[.pointer (some ⟨p, 0, none⟩), .int .u64 (t : Int)] w (DoesD B w p z (followN m t)) := by
  obtain ⟨vs, nx, mt, fr, h0⟩ := h
  have c1 := DN.c1 h0
  have c4 := DN.c4 h0
  have f4 := NodeAt.free h0 4
  have hplt := h0.plt
  obtain ⟨h1, g1⟩ := DN.setTo h0 4 (.int .i64 0) { m with role := 0 } vs nx mt rfl rfl rfl rfl
  have d1 := DN.c1 h1
  have hpl1 := h1.plt
  obtain ⟨T, hT⟩ : ∃ T, m.term = T := ⟨_, rfl⟩
  rw [show ({ m with role := 0 } : Nd).term = T from hT] at d1
  rw [hT] at c1
  by_cases hlt : T < t
  · have hM : followN m t = { retire m with term := t, vote := -1, leader := -1 } := by unfold followN; rw [if_pos (by rw [hT]; exact hlt)]
    rw [hM]
    have e1 := NodeAt.free h1 1
    obtain ⟨h2, g2⟩ := DN.setTo h1 1 (.int .u64 (t : Int)) { m with role := 0, term := t } vs nx mt rfl rfl rfl rfl
    have d2 := DN.c2 h2
    have e2 := NodeAt.free h2 2
    have hpl2 := h2.plt
    obtain ⟨h3, g3⟩ := DN.setTo h2 2 (.int .i64 (-1)) { m with role := 0, term := t, vote := -1 } vs nx mt rfl rfl rfl rfl
    have d5 := DN.c5 h3
    have e5 := NodeAt.free h3 5
    have hpl3 := h3.plt
    obtain ⟨h4, g4⟩ := DN.setTo h3 5 (.int .i64 (-1)) { retire m with term := t, vote := -1, leader := -1 } vs nx mt rfl rfl rfl rfl
    have HD := Lib.hid (show DAt B _ p z { retire m with term := t, vote := -1, leader := -1 } from ⟨vs, nx, mt, Fr.idle rfl fr.nl fr.ml, h4⟩)
    have HG := Lib.hid (((g1.trans g2).trans g3).trans g4)
    clear h1 h2 h3 h4 g1 g2 g3 g4 h0 fr hM f
    go_enter Tryz.func66, Tryz.ntmps66
    go_wp2
    go_end0
    exact ⟨rfl, z, HD.out, HG.out⟩
  · have hM : followN m t = retire m := by unfold followN; rw [if_neg (by rw [hT]; exact hlt)]
    rw [hM]
    have HD := Lib.hid (show DAt B _ p z (retire m) from ⟨vs, nx, mt, Fr.idle rfl fr.nl fr.ml, h1⟩)
    have HG := Lib.hid g1
    clear h1 g1 h0 fr hM f
    go_enter Tryz.func66, Tryz.ntmps66
    go_wp2
    go_end0
    exact ⟨rfl, z, HD.out, HG.out⟩
end
end Go.Proofs.YtojmbbldehbjfaaGreat.DWf
set_option linter.unusedVariables false
namespace Go.Proofs.YtojmbbldehbjfaaGreat.DWg
open Go.RowKit Go.Proofs.YtojmbbldehbjfaaGreat.Kit Go.Proofs.YtojmbbldehbjfaaGreat.Blocks Go.Proofs.YtojmbbldehbjfaaGreat.Rlog Go.Proofs.YtojmbbldehbjfaaGreat.Ents Go.Proofs.YtojmbbldehbjfaaGreat.LogAt Go.Proofs.YtojmbbldehbjfaaGreat.Nod Go.Proofs.YtojmbbldehbjfaaGreat.NodAt Go.Proofs.YtojmbbldehbjfaaGreat.AppL Go.Proofs.YtojmbbldehbjfaaGreat.DAt Go.Proofs.YtojmbbldehbjfaaGreat.DWa Go.Proofs.YtojmbbldehbjfaaGreat.DWb Go.Proofs.YtojmbbldehbjfaaGreat.DWc Go.Proofs.YtojmbbldehbjfaaGreat.DWd Go.Proofs.YtojmbbldehbjfaaGreat.DWe Go.Proofs.YtojmbbldehbjfaaGreat.DWf
open Go.Proofs.YtojmbbldehbjfaaGreat.WalkC (fold_take off_nums)
open Go.Proofs.YtojmbbldehbjfaaGreat.WalkH (fold_ask)
open Go.Proofs.YtojmbbldehbjfaaGreat.Told (unums)
open Go.Proofs.YtojmbbldehbjfaaGreat.Quorum (mem size need sound maj node has turn change)

theorem has_or (a b : Nat) {i : Nat} (h : i < 7) : has (a ||| b) (i : Int) = (has a (i : Int) || has b (i : Int)) := by
  rw [QuoWalkB.has_nat _ h, QuoWalkB.has_nat _ h, QuoWalkB.has_nat _ h, Nat.testBit_or]
section
variable {B p N : Nat} {z : Seat} {m : Nd} {w : World}
theorem DAt.offs (h : DAt B w p z m) : ∀ (w1 : World) (A : Option Addr) (n c : Nat) (xs : List Value), w1.ownsRow w.heap.size 3 1 (.slice A n c) n xs → Off (Mine p z) A n := by
  obtain ⟨vs, nx, mt, fr, h⟩ := h
  exact fun w1 A n c xs ho => off_nums h ho
theorem DAt.c0 (h : DAt B w p z m) : w.cell? ⟨p, 0, none⟩ = some (.int .i64 (m.id : Int)) := by
  obtain ⟨vs, nx, mt, fr, h⟩ := h
  exact DN.c0 h
set_option maxHeartbeats 2000000 in
/-- Nothing is done. -/
theorem dtimeout_still (h : DAt B w p z m) (f : NdB N m) (hs : m.role = 2 ∨ m.term = topN ∨ mayStand m = false) : Calls Tryz.prog 36 #[.pointer (some ⟨p, 0, none⟩)] w (DoesD B w p z (timeout m)) := by
  have ht : timeout m = m := by unfold timeout; rw [if_pos hs]
  rw [ht]
  have hmem := dmembers_any h f
  have hms : mayStand m = (has (cfg m) (m.id : Int) || has (members m.g m.commit).1 (m.id : Int)) := has_or _ _ f.id
  have hmc : ∀ W, Below w.heap.size w W → Calls Tryz.prog 72 #[.pointer (some ⟨z.q, 0, none⟩), .int .u64 (m.commit : Int)] W (RefD.PairIs W (members m.g m.commit).1 (members m.g m.commit).2) := fun W hb => by
    obtain ⟨vs, nx, mt, fr, h'⟩ := h.below hb
    exact RefD.rmembers_any h'.log f.fine m.commit
  have h1 := fun W => QuoWalkB.rhas_any (cfg m) (by have := cfg_lt f; omega) (m.id : Int) W
  have h2 := fun W => QuoWalkB.rhas_any (members m.g m.commit).1 (by have := members_lt f.fine m.commit; omega) (m.id : Int) W
  have htb := f.term
  obtain ⟨A, hA⟩ : ∃ A, cfg m = A := ⟨_, rfl⟩
  obtain ⟨S, hS⟩ : ∃ S, since m = S := ⟨_, rfl⟩
  obtain ⟨D1, hD1⟩ : ∃ D, (members m.g m.commit).1 = D := ⟨_, rfl⟩
  obtain ⟨D2, hD2⟩ : ∃ D, (members m.g m.commit).2 = D := ⟨_, rfl⟩
  obtain ⟨C, hC⟩ : ∃ C, m.commit = C := ⟨_, rfl⟩
  obtain ⟨I, hI⟩ : ∃ I, m.id = I := ⟨_, rfl⟩
  obtain ⟨R, hR⟩ : ∃ R, m.role = R := ⟨_, rfl⟩
  obtain ⟨Y, hY⟩ : ∃ Y, m.term = Y := ⟨_, rfl⟩
  obtain ⟨u1, hu1⟩ : ∃ u, has A (I : Int) = u := ⟨_, rfl⟩
  obtain ⟨u2, hu2⟩ : ∃ u, has D1 (I : Int) = u := ⟨_, rfl⟩
  rw [hA, hS] at hmem
  rw [hA, hI] at h1
  rw [hD1, hI] at h2
  simp only [hD1, hD2] at hmc
  rw [hA, hD1, hI, hu1, hu2] at hms
  rw [hu1] at h1
  rw [hu2] at h2
  rw [hR, hY, hms] at hs
  rw [hY] at htb
  have hc : ∀ W, Below w.heap.size w W → W.cell? ⟨p, 3, none⟩ = some (.pointer (some ⟨z.q, 0, none⟩)) ∧ W.cell? ⟨p, 6, none⟩ = some (.int .u64 (C : Int)) ∧ W.cell? ⟨p, 4, none⟩ = some (.int .i64 (R : Int)) ∧ W.cell? ⟨p, 1, none⟩ = some (.int .u64 (Y : Int)) ∧ W.cell? ⟨p, 0, none⟩ = some (.int .i64 (I : Int)) ∧ p < W.heap.size := fun W hb => by
    have h' := h.below hb
    exact ⟨DAt.c3 h', by rw [← hC]; exact DAt.c6 h', by rw [← hR]; exact DAt.c4 h', by rw [← hY]; exact DAt.c1 h', by rw [← hI]; exact DAt.c0 h', DAt.plt h'⟩
  rw [hC] at hmc
  have H := Lib.hid h
  have HM := Lib.hid hmem
  have HC := Lib.hid hmc
  have H1 := Lib.hid h1
  have H2 := Lib.hid h2
  have HCe := Lib.hid hc
  clear ht hms hmc h1 h2 hA hS hD1 hD2 hC hI hR hY hu1 hu2 hmem h f hc
  go_enter Tryz.func36, Tryz.ntmps36
  go_wp2_with fail
  with_reducible refine HM.out.mono ?_
  rintro e w1 ⟨rfl, hb1⟩
  obtain ⟨c3, c6, _, _, _, hpl⟩ := HCe.out _ hb1
  have HB1 := Lib.hid hb1
  clear hb1
  go_wp2_with fail
  go_region_held3 (fun W => W.cell? ⟨p, 3, none⟩ = some (.pointer (some ⟨z.q, 0, none⟩)) ∧ W.cell? ⟨p, 6, none⟩ = some (.int .u64 (C : Int)))
    (first
      | exact ⟨c3, c6⟩
      | (with_reducible exact HKA.out))
    (first
      | (go_at_call 72
         with_reducible refine (HC.out _ HB1.out.drew).mono ?_
         intro e wA hA
         unfold RefD.PairIs at hA
         obtain ⟨rfl, hBa⟩ := hA
         have HKA := Lib.hid (And.intro ((hBa.cell (p := ⟨p, 3, none⟩) hpl).trans c3) ((hBa.cell (p := ⟨p, 6, none⟩) hpl).trans c6))
         have HBA : Hid (Below w.heap.size w wA) := HB1.out.drew.trans (hBa.mono HB1.out.size)
         clear hBa))
  obtain ⟨_, _, c4, c1, c0, hpA⟩ := HCe.out _ HBA.out
  clear c3 c6
  by_cases hr : R = 2
  · subst hr
    go_wp2
    (try simp only [Exit.inBlock, Exit.then]); refine bodyPost_ret (results_none rfl _ _ _) rfl ?_
    exact ⟨rfl, LeftD.of_below H.out HBA.out⟩
  · have hr2 : ((R : Int) == 2) = false := by simp; omega
    by_cases hY : Y = topN
    · have hw0 : IntKind.u64.wrap ((Y : Int) + 1) = 0 := by rw [hY]; rfl
      clear hs hY hr
      go_wp2
      (try simp only [Exit.inBlock, Exit.then]); refine bodyPost_ret (results_none rfl _ _ _) rfl ?_
      exact ⟨rfl, LeftD.of_below H.out HBA.out⟩
    · have hu : u1 = false ∧ u2 = false := by simpa [hr, hY] using hs
      obtain ⟨rfl, rfl⟩ := hu
      have hw1 : IntKind.u64.wrap ((Y : Int) + 1) = ((Y + 1 : Nat) : Int) := by rw [show (Y : Int) + 1 = ((Y + 1 : Nat) : Int) by omega]; exact IntWalk.u64_in _ (by unfold topN at hY; omega)
      obtain ⟨Y1, hY1⟩ : ∃ Y1, Y + 1 = Y1 := ⟨_, rfl⟩
      rw [hY1] at hw1
      have hy0 : ((Y1 : Int) == 0) = false := by simp; omega
      clear hs hY hr hY1
      go_wp2_with fail
      with_reducible refine (H1.out _).mono ?_
      rintro e w2 ⟨rfl, rfl⟩
      go_wp2_with fail
      with_reducible refine (H2.out _).mono ?_
      rintro e w2 ⟨rfl, rfl⟩
      go_wp2
      (try simp only [Exit.inBlock, Exit.then]); refine bodyPost_ret (results_none rfl _ _ _) rfl ?_
      exact ⟨rfl, LeftD.of_below H.out HBA.out⟩
/-- It stands: behind the six stores. -/
theorem stood {vs : Nat} {nx mt : List Nat} (h : DN B w p z m vs nx mt) (f : Fr m vs nx mt) (Y1 P2 : Nat) (hY : m.term + 1 = Y1) (hP : 2 ^ m.id = P2) :
    ∃ w', (((((w.setCell ⟨p, 4, none⟩ (.int .i64 1)).setCell ⟨p, 5, none⟩ (.int .i64 (-1))).setCell ⟨p, 1, none⟩ (.int .u64 (Y1 : Int))).setCell ⟨p, 2, none⟩ (.int .i64 (m.id : Int))).setCell ⟨p, 7, none⟩ (.int .u64 (P2 : Int))).setCell ⟨p, 25, none⟩ (.bool true) = w' ∧
      DAt B w' p z (stands m) ∧ Grow p z z w w' ∧
      w.cell? ⟨p, 4, none⟩ = some (.int .i64 (m.role : Int)) ∧ (∀ i, w.frozen? ⟨p, i, none⟩ = false) ∧
      (w.setCell ⟨p, 4, none⟩ (.int .i64 1)).cell? ⟨p, 5, none⟩ = some (.int .i64 m.leader) ∧ (∀ i, (w.setCell ⟨p, 4, none⟩ (.int .i64 1)).frozen? ⟨p, i, none⟩ = false) ∧
      ((w.setCell ⟨p, 4, none⟩ (.int .i64 1)).setCell ⟨p, 5, none⟩ (.int .i64 (-1))).cell? ⟨p, 1, none⟩ = some (.int .u64 (m.term : Int)) ∧ (∀ i, ((w.setCell ⟨p, 4, none⟩ (.int .i64 1)).setCell ⟨p, 5, none⟩ (.int .i64 (-1))).frozen? ⟨p, i, none⟩ = false) ∧
      (((w.setCell ⟨p, 4, none⟩ (.int .i64 1)).setCell ⟨p, 5, none⟩ (.int .i64 (-1))).setCell ⟨p, 1, none⟩ (.int .u64 (Y1 : Int))).cell? ⟨p, 0, none⟩ = some (.int .i64 (m.id : Int)) ∧ (((w.setCell ⟨p, 4, none⟩ (.int .i64 1)).setCell ⟨p, 5, none⟩ (.int .i64 (-1))).setCell ⟨p, 1, none⟩ (.int .u64 (Y1 : Int))).cell? ⟨p, 2, none⟩ = some (.int .i64 m.vote) ∧ (∀ i, (((w.setCell ⟨p, 4, none⟩ (.int .i64 1)).setCell ⟨p, 5, none⟩ (.int .i64 (-1))).setCell ⟨p, 1, none⟩ (.int .u64 (Y1 : Int))).frozen? ⟨p, i, none⟩ = false) ∧
      ((((w.setCell ⟨p, 4, none⟩ (.int .i64 1)).setCell ⟨p, 5, none⟩ (.int .i64 (-1))).setCell ⟨p, 1, none⟩ (.int .u64 (Y1 : Int))).setCell ⟨p, 2, none⟩ (.int .i64 (m.id : Int))).cell? ⟨p, 0, none⟩ = some (.int .i64 (m.id : Int)) ∧ ((((w.setCell ⟨p, 4, none⟩ (.int .i64 1)).setCell ⟨p, 5, none⟩ (.int .i64 (-1))).setCell ⟨p, 1, none⟩ (.int .u64 (Y1 : Int))).setCell ⟨p, 2, none⟩ (.int .i64 (m.id : Int))).cell? ⟨p, 7, none⟩ = some (.int .u64 (vs : Int)) ∧ (∀ i, ((((w.setCell ⟨p, 4, none⟩ (.int .i64 1)).setCell ⟨p, 5, none⟩ (.int .i64 (-1))).setCell ⟨p, 1, none⟩ (.int .u64 (Y1 : Int))).setCell ⟨p, 2, none⟩ (.int .i64 (m.id : Int))).frozen? ⟨p, i, none⟩ = false) ∧
      (((((w.setCell ⟨p, 4, none⟩ (.int .i64 1)).setCell ⟨p, 5, none⟩ (.int .i64 (-1))).setCell ⟨p, 1, none⟩ (.int .u64 (Y1 : Int))).setCell ⟨p, 2, none⟩ (.int .i64 (m.id : Int))).setCell ⟨p, 7, none⟩ (.int .u64 (P2 : Int))).cell? ⟨p, 25, none⟩ = some (.bool m.reset) ∧ (∀ i, (((((w.setCell ⟨p, 4, none⟩ (.int .i64 1)).setCell ⟨p, 5, none⟩ (.int .i64 (-1))).setCell ⟨p, 1, none⟩ (.int .u64 (Y1 : Int))).setCell ⟨p, 2, none⟩ (.int .i64 (m.id : Int))).setCell ⟨p, 7, none⟩ (.int .u64 (P2 : Int))).frozen? ⟨p, i, none⟩ = false) := by
  obtain ⟨h1, g1⟩ := DN.setTo h 4 (.int .i64 1) { m with role := 1 } vs nx mt rfl rfl rfl rfl
  obtain ⟨h2, g2⟩ := DN.setTo h1 5 (.int .i64 (-1)) { m with role := 1, leader := -1 } vs nx mt rfl rfl rfl rfl
  obtain ⟨h3, g3⟩ := DN.setTo h2 1 (.int .u64 (Y1 : Int)) { m with role := 1, leader := -1, term := Y1 } vs nx mt rfl rfl rfl rfl
  obtain ⟨h4, g4⟩ := DN.setTo h3 2 (.int .i64 (m.id : Int)) { m with role := 1, leader := -1, term := Y1, vote := (m.id : Int) } vs nx mt rfl rfl rfl rfl
  obtain ⟨h5, g5⟩ := DN.setTo h4 7 (.int .u64 (P2 : Int)) { m with role := 1, leader := -1, term := Y1, vote := (m.id : Int), votes := P2 } P2 nx mt rfl rfl rfl rfl
  obtain ⟨h6, g6⟩ := DN.setTo h5 25 (.bool true) (stands m) P2 nx mt (by rw [show (25 : Nat) = 22 + 3 from rfl, dcs_set_tl f.nl f.ml 3]; unfold stands; rw [hY, hP]; rfl) rfl rfl rfl
  have q1 := DN.c5 h1
  have q2 := DN.c1 h2
  have q3 := DN.c0 h3
  have q3' := DN.c2 h3
  have q4 := DN.c0 h4
  have q4' := DN.c7 h4
  refine ⟨_, rfl, ⟨P2, nx, mt, ⟨fun _ => hP.symm, fun e => ?_, fun e => ?_, f.nl, f.ml⟩, h6⟩, ((((g1.trans g2).trans g3).trans g4).trans g5).trans g6, DN.c4 h, fun i => NodeAt.free h i, q1, fun i => NodeAt.free h1 i, q2, fun i => NodeAt.free h2 i, q3, q3', fun i => NodeAt.free h3 i, q4, q4', fun i => NodeAt.free h4 i, ?_, fun i => NodeAt.free h5 i⟩
  · exact absurd e (by show ¬ 1 = 2; decide)
  · exact absurd e (by show ¬ 1 = 2; decide)
  · exact h5.at_ (dcs_tl f.nl f.ml 3)
set_option maxRecDepth 100000 in
set_option maxHeartbeats 8000000 in
theorem dtimeout_go (h : DAt B w p z m) (f : NdB N m) (hN : N ≤ 700000000) (hr : m.role ≠ 2) (hT : m.term ≠ topN) (hs : mayStand m = true) : Calls Tryz.prog 36 #[.pointer (some ⟨p, 0, none⟩)] w (DoesD B w p z (timeout m)) := by
  have ht : timeout m = lead (asks (stands m)) := by unfold timeout; rw [if_neg (by rintro (e | e | e); exact hr e; exact hT e; rw [hs] at e; cases e)]
  have fs := stands_b f hr hT
  have fa := asks_b fs
  rw [ht]
  have hmem := dmembers_any h f
  have hms : mayStand m = (has (cfg m) (m.id : Int) || has (members m.g m.commit).1 (m.id : Int)) := has_or _ _ f.id
  have hmc : ∀ W, Below w.heap.size w W → Calls Tryz.prog 72 #[.pointer (some ⟨z.q, 0, none⟩), .int .u64 (m.commit : Int)] W (RefD.PairIs W (members m.g m.commit).1 (members m.g m.commit).2) := fun W hb => by
    obtain ⟨vs, nx, mt, fr, h'⟩ := h.below hb
    exact RefD.rmembers_any h'.log f.fine m.commit
  have h1 := fun W => QuoWalkB.rhas_any (cfg m) (by have := cfg_lt f; omega) (m.id : Int) W
  have h2 := fun W => QuoWalkB.rhas_any (members m.g m.commit).1 (by have := members_lt f.fine m.commit; omega) (m.id : Int) W
  have htb := f.term
  have hid := f.id
  obtain ⟨A, hA⟩ : ∃ A, cfg m = A := ⟨_, rfl⟩
  obtain ⟨S, hS⟩ : ∃ S, since m = S := ⟨_, rfl⟩
  obtain ⟨D1, hD1⟩ : ∃ D, (members m.g m.commit).1 = D := ⟨_, rfl⟩
  obtain ⟨D2, hD2⟩ : ∃ D, (members m.g m.commit).2 = D := ⟨_, rfl⟩
  obtain ⟨C, hC⟩ : ∃ C, m.commit = C := ⟨_, rfl⟩
  obtain ⟨I, hI⟩ : ∃ I, m.id = I := ⟨_, rfl⟩
  obtain ⟨R, hR⟩ : ∃ R, m.role = R := ⟨_, rfl⟩
  obtain ⟨Y, hY⟩ : ∃ Y, m.term = Y := ⟨_, rfl⟩
  obtain ⟨u1, hu1⟩ : ∃ u, has A (I : Int) = u := ⟨_, rfl⟩
  obtain ⟨u2, hu2⟩ : ∃ u, has D1 (I : Int) = u := ⟨_, rfl⟩
  rw [hA, hS] at hmem
  rw [hA, hI] at h1
  rw [hD1, hI] at h2
  simp only [hD1, hD2] at hmc
  rw [hA, hD1, hI, hu1, hu2, hs] at hms
  rw [hu1] at h1
  rw [hu2] at h2
  rw [hR] at hr
  rw [hY] at htb hT
  have hc : ∀ W, Below w.heap.size w W → W.cell? ⟨p, 3, none⟩ = some (.pointer (some ⟨z.q, 0, none⟩)) ∧ W.cell? ⟨p, 6, none⟩ = some (.int .u64 (C : Int)) ∧ W.cell? ⟨p, 4, none⟩ = some (.int .i64 (R : Int)) ∧ W.cell? ⟨p, 1, none⟩ = some (.int .u64 (Y : Int)) ∧ W.cell? ⟨p, 0, none⟩ = some (.int .i64 (I : Int)) ∧ p < W.heap.size := fun W hb => by
    have h' := h.below hb
    exact ⟨DAt.c3 h', by rw [← hC]; exact DAt.c6 h', by rw [← hR]; exact DAt.c4 h', by rw [← hY]; exact DAt.c1 h', by rw [← hI]; exact DAt.c0 h', DAt.plt h'⟩
  rw [hC] at hmc
  have hr2 : ((R : Int) == 2) = false := by simp; omega
  have hw1 : IntKind.u64.wrap ((Y : Int) + 1) = ((Y + 1 : Nat) : Int) := by rw [show (Y : Int) + 1 = ((Y + 1 : Nat) : Int) by omega]; exact IntWalk.u64_in _ (by unfold topN at hT; omega)
  obtain ⟨Y1, hY1⟩ : ∃ Y1, Y + 1 = Y1 := ⟨_, rfl⟩
  obtain ⟨P2, hP2⟩ : ∃ P2, 2 ^ I = P2 := ⟨_, rfl⟩
  have hwp : IntKind.u64.wrap (2 ^ I) = (P2 : Int) := by
    have h0 := pow_lt (hI ▸ hid)
    have := QuoWalkA.wrap_u64 (2 ^ I) (by omega)
    rw [← hP2, ← this, Int.natCast_pow]
    rfl
  rw [hY1] at hw1
  have hy0 : ((Y1 : Int) == 0) = false := by simp; omega
  have hidI : I < 7 := hI ▸ hid
  obtain ⟨M, hM⟩ : ∃ M, lead (asks (stands m)) = M := ⟨_, rfl⟩
  rw [hM]
  have hstd : ∀ W, Below w.heap.size w W → ∃ vs nx mt, Fr m vs nx mt ∧ DN B W p z m vs nx mt := fun W hb => h.below hb
  have HCase : Hid (u1 = true ∨ (u1 = false ∧ u2 = true)) := by
    refine Lib.hid ?_
    cases u1
    · right; exact ⟨rfl, by simpa using hms.symm⟩
    · left; rfl
  have H := Lib.hid h
  have HM0 := Lib.hid hmem
  have HC := Lib.hid hmc
  have H1 := Lib.hid h1
  have H2 := Lib.hid h2
  have HCe := Lib.hid hc
  have HStd := Lib.hid hstd
  have FS := Lib.hid fs
  have FA := Lib.hid fa
  have HM := Lib.hid hM
  have HY := Lib.hid hY
  have HI := Lib.hid hI
  have HY1 := Lib.hid hY1
  have HP2 := Lib.hid hP2
  have HWP := Lib.hid hwp
  clear ht hms hmc h1 h2 hA hS hD1 hD2 hC hI hR hY hu1 hu2 hmem h f hc hs hT hr fs fa hY1 hP2 hM hid hstd hwp
  go_enter Tryz.func36, Tryz.ntmps36
  go_wp2_with fail
  with_reducible refine HM0.out.mono ?_
  rintro e w1 ⟨rfl, hb1⟩
  obtain ⟨c3, c6, _, _, _, hpl⟩ := HCe.out _ hb1
  have HB1 := Lib.hid hb1
  clear hb1
  go_wp2_with fail
  go_region_held3 (fun W => W.cell? ⟨p, 3, none⟩ = some (.pointer (some ⟨z.q, 0, none⟩)) ∧ W.cell? ⟨p, 6, none⟩ = some (.int .u64 (C : Int)))
    (first
      | exact ⟨c3, c6⟩
      | (with_reducible exact HKA.out))
    (first
      | (go_at_call 72
         with_reducible refine (HC.out _ HB1.out.drew).mono ?_
         intro e wA hA
         unfold RefD.PairIs at hA
         obtain ⟨rfl, hBa⟩ := hA
         have HKA := Lib.hid (And.intro ((hBa.cell (p := ⟨p, 3, none⟩) hpl).trans c3) ((hBa.cell (p := ⟨p, 6, none⟩) hpl).trans c6))
         have HBA : Hid (Below w.heap.size w wA) := HB1.out.drew.trans (hBa.mono HB1.out.size)
         clear hBa))
  obtain ⟨_, _, _, c1, c0, hpA⟩ := HCe.out _ HBA.out
  obtain ⟨vs, nx, mt, fr, hd⟩ := HStd.out _ HBA.out
  obtain ⟨wS, hwS, hDS, hgS, k4, f1, k5, f2, k1, f3, k0, k2, f4, k0', k7, f5, k25, f6⟩ := stood hd fr Y1 P2 (by rw [HY.out, HY1.out]) (by rw [HI.out, HP2.out])
  rw [HI.out] at hwS k0 k0' k7 f5 k25 f6
  rw [HY.out] at k1
  have c4 := HCe.out _ HBA.out
  have c4 := c4.2.2.1
  have HWS := Lib.hid hwS
  have HDS := Lib.hid hDS
  have GS := Lib.hid ((Grow.of_below z HBA.out).trans hgS)
  obtain ⟨m1, hm1⟩ : ∃ m1, stands m = m1 := ⟨_, rfl⟩
  rw [hm1] at HDS FS FA HM
  have hc3 := DAt.c3 HDS.out
  have hplS := DAt.plt HDS.out
  have hlast : Calls Tryz.prog 34 #[.pointer (some ⟨z.q, 0, none⟩)] wS fun e w' => e = .returned (.tuple #[.int .u64 ((last m1.g).1 : Int), .int .u64 ((last m1.g).2 : Int)]) ∧ Below wS.heap.size wS w' := by
    obtain ⟨vs, nx, mt, fr, h'⟩ := HDS.out
    exact RefB.rlast_any (NodeAt.log h')
  obtain ⟨LI, hLI⟩ : ∃ LI, (last m1.g).1 = LI := ⟨_, rfl⟩
  obtain ⟨LT, hLT⟩ : ∃ LT, (last m1.g).2 = LT := ⟨_, rfl⟩
  rw [hLI, hLT] at hlast
  have HLast := Lib.hid hlast
  have HLI := Lib.hid hLI
  have HLT := Lib.hid hLT
  clear c3 c6 hd fr hwS hDS hgS hm1 hlast hLI hLT k4
  have hwp := HWP.out
  rcases HCase.out with rfl | ⟨rfl, rfl⟩
  · go_wp2_with fail
    with_reducible refine (H1.out _).mono ?_
    rintro e w2 ⟨rfl, rfl⟩
    go_wp2_with fail
    rw [HWS.out]
    as_aux_lemma =>
    with_reducible refine HLast.out.mono ?_
    rintro e wa ⟨rfl, hba⟩
    clear k5 f1 f2 k1 f3 k0 k2 f4 k0' k7 f5 k25 f6 c1 c0 c4 hc3 hpA hplS hwp
    have ha := HDS.out.below hba
    have HA := Lib.hid ha
    have GA := Lib.hid (GS.out.thenBelow hba)
    have hoth := dothers_any ha FS.out
    have hl7 := rest_len m1
    obtain ⟨L, hL⟩ : ∃ L, rest m1 = L := ⟨_, rfl⟩
    have hlt7 : ∀ i, i ∈ L → i < 7 := fun i hi => rest_lt (hL ▸ hi)
    have has2 : asks m1 = L.foldl askN m1 := by unfold asks; rw [hL]
    rw [hL] at hoth hl7
    have hstk : ∀ k, NdB (N + 7) ((L.take k).foldl askN m1) := fun k => (fold_b (fun j h => askN_b h j) (L.take k) FS.out).mono (Nat.add_le_add_left (Nat.le_trans (List.length_take_le' k L) hl7) N)
    have HO := Lib.hid hoth
    have HStk := Lib.hid hstk
    have HL7 := Lib.hid hlt7
    have HAs := Lib.hid has2
    have HOffs := Lib.hid (DAt.offs ha)
    clear ha hba hoth hlt7 has2 hstk hL
    go_wp2_with fail
    with_reducible refine HO.out.mono ?_
    rintro e wb ⟨v, rfl, hown, hbb⟩
    obtain ⟨AA, c, rfl, hnc, hcm, hrd⟩ := own_form hown
    obtain ⟨n, hn⟩ : ∃ n, L.length = n := ⟨_, rfl⟩
    have hoff := HOffs.out _ _ _ _ _ hown
    rw [hn] at hrd hnc hl7 hoff
    have hb := HA.out.below hbb
    have HRd := Lib.hid hrd
    have HOff := Lib.hid hoff
    have HHb := Lib.hid hb
    have HN := Lib.hid hn
    have GB := Lib.hid (GA.out.thenBelow hbb)
    clear hn hown hrd hoff hb hbb
    rw [HN.out]
    go_wp2
    go_loopw [9] (fun i wr => ∃ (k : Nat) (z' : Seat), k ≤ n ∧ i = .int .i64 (k : Int) ∧ Hid (DAt B wr p z' ((L.take k).foldl askN m1)) ∧ Hid (Grow p z z' w wr) ∧ Hid (Grow p z z' wb wr)) (fun i _ => n - (intOf i).toNat)
    case atStart => exact ⟨0, z, by omega, rfl, Lib.hid HHb.out, GB, Lib.hid (Grow.refl _ _ _)⟩
    case round =>
      obtain ⟨k, z', hk, rfl, HK, HG, HGb⟩ := hrel
      by_cases hkn : k < n
      · obtain ⟨b, o, j, rfl, _, hj, hcell⟩ := QuoWalkC.Reads.num (Off.reads HOff.out HGb.out.only HRd.out (Nat.le_refl _)) hkn
        have hjl : j < 7 := HL7.out j (List.mem_of_getElem? hj)
        obtain ⟨_, hfg⟩ := fold_ask m1 (L.take k)
        have hs : Calls Tryz.prog 67 #[.pointer (some ⟨p, 0, none⟩), .agg #[.int .i64 1, .int .i64 0, .int .i64 (j : Int), .int .u64 0, .int .u64 (LI : Int), .int .u64 (LT : Int), .int .u64 0, .bool false, .slice none 0 0, .string ⟨#[]⟩]] wr (DoesD B wr p z' ((L.take (k + 1)).foldl askN m1)) := by
          have := dsend_any HK.out (HStk.out k) (by omega) (askOf ((L.take k).foldl askN m1) j) noPl (Fit.none wr _ rfl)
          rw [fold_take askN m1 L k j hj]
          have e2 : ltV (askOf ((L.take k).foldl askN m1) j) noPl = .agg #[.int .i64 1, .int .i64 0, .int .i64 (j : Int), .int .u64 0, .int .u64 (LI : Int), .int .u64 (LT : Int), .int .u64 0, .bool false, .slice none 0 0, .string ⟨#[]⟩] := by
            unfold ltV askOf
            rw [hfg]
            simp only [HLI.out, HLT.out]
            rfl
          rw [e2] at this
          exact this
        have HS := Lib.hid hs
        clear hs hj hfg
        go_wp2_with fail
        with_reducible refine HS.out.mono ?_
        rintro e w2 ⟨rfl, z2, h2, g2⟩
        have H2 := Lib.hid h2
        have G2 := Lib.hid (HG.out.trans g2)
        have G2b := Lib.hid (HGb.out.trans g2)
        clear h2 g2
        go_wp2
        go_roundw
        case rel => exact ⟨k + 1, z2, by omega, by go_num, H2, G2, G2b⟩
        case measure => simp [intOf]; omega
      · obtain rfl : k = n := by omega
        have hA := HK.out
        rw [List.take_of_length_le (by rw [HN.out]; exact Nat.le_refl _), ← HAs.out] at hA
        have hld := dlead_any hA FA.out (by omega)
        rw [HM.out] at hld
        have HLd := Lib.hid hld
        clear hA hld
        go_wp2_with fail
        with_reducible refine HLd.out.mono ?_
        rintro e w2 ⟨rfl, z2, h2, g2⟩
        have H2 := Lib.hid h2
        have G2 := Lib.hid (HG.out.trans g2)
        clear h2 g2
        go_wp2
        go_end0
        exact ⟨rfl, z2, H2.out, G2.out⟩
  · go_wp2_with fail
    with_reducible refine (H1.out _).mono ?_
    rintro e w2 ⟨rfl, rfl⟩
    go_wp2_with fail
    with_reducible refine (H2.out _).mono ?_
    rintro e w2 ⟨rfl, rfl⟩
    go_wp2_with fail
    rw [HWS.out]
    as_aux_lemma =>
    with_reducible refine HLast.out.mono ?_
    rintro e wa ⟨rfl, hba⟩
    clear k5 f1 f2 k1 f3 k0 k2 f4 k0' k7 f5 k25 f6 c1 c0 c4 hc3 hpA hplS hwp
    have ha := HDS.out.below hba
    have HA := Lib.hid ha
    have GA := Lib.hid (GS.out.thenBelow hba)
    have hoth := dothers_any ha FS.out
    have hl7 := rest_len m1
    obtain ⟨L, hL⟩ : ∃ L, rest m1 = L := ⟨_, rfl⟩
    have hlt7 : ∀ i, i ∈ L → i < 7 := fun i hi => rest_lt (hL ▸ hi)
    have has2 : asks m1 = L.foldl askN m1 := by unfold asks; rw [hL]
    rw [hL] at hoth hl7
    have hstk : ∀ k, NdB (N + 7) ((L.take k).foldl askN m1) := fun k => (fold_b (fun j h => askN_b h j) (L.take k) FS.out).mono (Nat.add_le_add_left (Nat.le_trans (List.length_take_le' k L) hl7) N)
    have HO := Lib.hid hoth
    have HStk := Lib.hid hstk
    have HL7 := Lib.hid hlt7
    have HAs := Lib.hid has2
    have HOffs := Lib.hid (DAt.offs ha)
    clear ha hba hoth hlt7 has2 hstk hL
    go_wp2_with fail
    with_reducible refine HO.out.mono ?_
    rintro e wb ⟨v, rfl, hown, hbb⟩
    obtain ⟨AA, c, rfl, hnc, hcm, hrd⟩ := own_form hown
    obtain ⟨n, hn⟩ : ∃ n, L.length = n := ⟨_, rfl⟩
    have hoff := HOffs.out _ _ _ _ _ hown
    rw [hn] at hrd hnc hl7 hoff
    have hb := HA.out.below hbb
    have HRd := Lib.hid hrd
    have HOff := Lib.hid hoff
    have HHb := Lib.hid hb
    have HN := Lib.hid hn
    have GB := Lib.hid (GA.out.thenBelow hbb)
    clear hn hown hrd hoff hb hbb
    rw [HN.out]
    go_wp2
    go_loopw [9] (fun i wr => ∃ (k : Nat) (z' : Seat), k ≤ n ∧ i = .int .i64 (k : Int) ∧ Hid (DAt B wr p z' ((L.take k).foldl askN m1)) ∧ Hid (Grow p z z' w wr) ∧ Hid (Grow p z z' wb wr)) (fun i _ => n - (intOf i).toNat)
    case atStart => exact ⟨0, z, by omega, rfl, Lib.hid HHb.out, GB, Lib.hid (Grow.refl _ _ _)⟩
    case round =>
      obtain ⟨k, z', hk, rfl, HK, HG, HGb⟩ := hrel
      by_cases hkn : k < n
      · obtain ⟨b, o, j, rfl, _, hj, hcell⟩ := QuoWalkC.Reads.num (Off.reads HOff.out HGb.out.only HRd.out (Nat.le_refl _)) hkn
        have hjl : j < 7 := HL7.out j (List.mem_of_getElem? hj)
        obtain ⟨_, hfg⟩ := fold_ask m1 (L.take k)
        have hs : Calls Tryz.prog 67 #[.pointer (some ⟨p, 0, none⟩), .agg #[.int .i64 1, .int .i64 0, .int .i64 (j : Int), .int .u64 0, .int .u64 (LI : Int), .int .u64 (LT : Int), .int .u64 0, .bool false, .slice none 0 0, .string ⟨#[]⟩]] wr (DoesD B wr p z' ((L.take (k + 1)).foldl askN m1)) := by
          have := dsend_any HK.out (HStk.out k) (by omega) (askOf ((L.take k).foldl askN m1) j) noPl (Fit.none wr _ rfl)
          rw [fold_take askN m1 L k j hj]
          have e2 : ltV (askOf ((L.take k).foldl askN m1) j) noPl = .agg #[.int .i64 1, .int .i64 0, .int .i64 (j : Int), .int .u64 0, .int .u64 (LI : Int), .int .u64 (LT : Int), .int .u64 0, .bool false, .slice none 0 0, .string ⟨#[]⟩] := by
            unfold ltV askOf
            rw [hfg]
            simp only [HLI.out, HLT.out]
            rfl
          rw [e2] at this
          exact this
        have HS := Lib.hid hs
        clear hs hj hfg
        go_wp2_with fail
        with_reducible refine HS.out.mono ?_
        rintro e w2 ⟨rfl, z2, h2, g2⟩
        have H2 := Lib.hid h2
        have G2 := Lib.hid (HG.out.trans g2)
        have G2b := Lib.hid (HGb.out.trans g2)
        clear h2 g2
        go_wp2
        go_roundw
        case rel => exact ⟨k + 1, z2, by omega, by go_num, H2, G2, G2b⟩
        case measure => simp [intOf]; omega
      · obtain rfl : k = n := by omega
        have hA := HK.out
        rw [List.take_of_length_le (by rw [HN.out]; exact Nat.le_refl _), ← HAs.out] at hA
        have hld := dlead_any hA FA.out (by omega)
        rw [HM.out] at hld
        have HLd := Lib.hid hld
        clear hA hld
        go_wp2_with fail
        with_reducible refine HLd.out.mono ?_
        rintro e w2 ⟨rfl, z2, h2, g2⟩
        have H2 := Lib.hid h2
        have G2 := Lib.hid (HG.out.trans g2)
        clear h2 g2
        go_wp2
        go_end0
        exact ⟨rfl, z2, H2.out, G2.out⟩
theorem dtimeout_any (h : DAt B w p z m) (f : NdB N m) (hN : N ≤ 700000000) : Calls Tryz.prog 36 #[.pointer (some ⟨p, 0, none⟩)] w (DoesD B w p z (timeout m)) := by
  by_cases hs : m.role = 2 ∨ m.term = topN ∨ mayStand m = false
  · exact dtimeout_still h f hs
  · exact dtimeout_go h f hN (fun e => hs (.inl e)) (fun e => hs (.inr (.inl e))) (by cases e : mayStand m with | true => rfl | false => exact absurd (.inr (.inr e)) hs)
end
end Go.Proofs.YtojmbbldehbjfaaGreat.DWg
