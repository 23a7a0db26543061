/- What the program's New leaves, walked. -/
import Derived.Test.YtdbmpfongfiagaaWalkF
import Derived.Test.YtdbmpfongfiagaaRlgWalkJ
import Derived.Test.YtdbmpfongfiagaaQuoWalkD
set_option linter.unusedVariables false
namespace Go.Proofs.Ytdbmpfongfiagaa.WalkG
open Go.RowKit Go.Proofs.Ytdbmpfongfiagaa.Kit Go.Proofs.Ytdbmpfongfiagaa.Blocks Go.Proofs.Ytdbmpfongfiagaa.Rlog Go.Proofs.Ytdbmpfongfiagaa.Ents Go.Proofs.Ytdbmpfongfiagaa.LogAt Go.Proofs.Ytdbmpfongfiagaa.Nod Go.Proofs.Ytdbmpfongfiagaa.NodAt Go.Proofs.Ytdbmpfongfiagaa.AppL Go.Proofs.Ytdbmpfongfiagaa.WalkA Go.Proofs.Ytdbmpfongfiagaa.WalkB Go.Proofs.Ytdbmpfongfiagaa.WalkC Go.Proofs.Ytdbmpfongfiagaa.WalkD Go.Proofs.Ytdbmpfongfiagaa.WalkE Go.Proofs.Ytdbmpfongfiagaa.WalkF
open Go.Proofs.Ytdbmpfongfiagaa.Told (unums)
open Go.Proofs.Ytdbmpfongfiagaa.Quorum (mem size need sound maj node has turn change)
open Go.Proofs.Ytdbmpfongfiagaa.RlgWalkB (entV)

theorem logd_b {N : Nat} {m : Nd} (h : NdB N m) (kind : Int) (d : ByteArray) (k0 : -9223372036854775808 ≤ kind) (k1 : kind ≤ 9223372036854775807) (hd : d.size ≤ 9223372036854775807) (hc : canAdd m kind d = true) : NdB (N + 1) { m with g := (added m kind d).g } := by
  obtain ⟨f1, f2⟩ := added_fine h kind d k0 k1 hd hc
  have ht := h.top
  exact { h.mono (Nat.le_succ N) with
    fine := f1
    es := by have := h.es; simp only [added, List.length_append, List.length_singleton]; omega
    top := by show (last (added m kind d).g).1 ≤ _; rw [f2]; omega }
/-- An entry in a box. -/
structure EBox (W : World) (r : Nat) (e : Ent) : Prop where
  blk : W.heap[r]? = some (.cells #[.int .u64 (e.term : Int), .int .u64 (e.idx : Int), .int .i64 e.kind, .string e.data] 57 (0, 0))
theorem EBox.set {W : World} {r : Nat} {a b c d : Value} (h : W.heap[r]? = some (.cells #[a, b, c, d] 57 (0, 0))) (e : Ent) :
    EBox ((((W.setCell ⟨r, 0, none⟩ (.int .u64 (e.term : Int))).setCell ⟨r, 1, none⟩ (.int .u64 (e.idx : Int))).setCell ⟨r, 2, none⟩ (.int .i64 e.kind)).setCell ⟨r, 3, none⟩ (.string e.data)) r e ∧
      Only (fun q => q = r) W ((((W.setCell ⟨r, 0, none⟩ (.int .u64 (e.term : Int))).setCell ⟨r, 1, none⟩ (.int .u64 (e.idx : Int))).setCell ⟨r, 2, none⟩ (.int .i64 e.kind)).setCell ⟨r, 3, none⟩ (.string e.data)) := by
  refine ⟨⟨?_⟩, ((((Only.refl (fun q => q = r) W).setCell (a := ⟨r, 0, none⟩) (.inr rfl) _).setCell (a := ⟨r, 1, none⟩) (.inr rfl) _).setCell (a := ⟨r, 2, none⟩) (.inr rfl) _).setCell (a := ⟨r, 3, none⟩) (.inr rfl) _⟩
  rw [set_at (set_at (set_at (set_at h _) _) _) _]
  rfl
section
variable {B p N : Nat} {z : Seat} {m : Nd} {w : World}
theorem Grow.out {z' : Seat} {w' : World} {r : Nat} (h : Grow p z z' w w') (hm : ¬ Mine p z r) (hr : r < w.heap.size) : ¬ Mine p z' r := fun e => by
  rcases h.new r e with h1 | h1
  · exact hm h1
  · omega
/-- Behind the first region of add. -/
def Mid (B : Nat) (w : World) (p : Nat) (z : Seat) (m1 : Nd) (x : Ent) (k : Int) (a b : Value) (wx : World) : Prop :=
  ∃ r z', a = .pointer (some ⟨r, 0, none⟩) ∧ b = .int .i64 k ∧ EBox wx r x ∧ PAt B wx p z' m1 ∧ Grow p z z' w wx ∧ w.heap.size ≤ r ∧ ¬ Mine p z' r
theorem mid_late {m1 : Nd} {x : Ent} {k : Int} {wA : World} {z' : Seat} (h : PAt B wA p z' m1) (hg : Grow p z z' w wA) :
    Mid B w p z m1 x k (.pointer (some ⟨wA.heap.size, 0, none⟩)) (.int .i64 k) (wA.alloc (.cells #[.int .u64 (x.term : Int), .int .u64 (x.idx : Int), .int .i64 x.kind, .string x.data] 57)) :=
  ⟨wA.heap.size, z', rfl, rfl, ⟨heap_alloc_new wA _⟩, h.below ((Below.refl _ _).alloc (Nat.le_refl _) _), hg.thenBelow ((Below.refl _ _).alloc (Nat.le_refl _) _), hg.size, fun hm => by have := (NodeAt.mine_lt h hm).2; omega⟩
theorem log_add (h : PAt B w p z m) (f : NdB N m) (hN : N ≤ 1000000000) (kind : Int) (d : ByteArray) (k0 : -9223372036854775808 ≤ kind) (k1 : kind ≤ 9223372036854775807) (hd : d.size ≤ 9223372036854775807) {x : Ent} {k : Int} {g : G} (hr : Rlog.add m.g m.term kind d = ((x, k), g)) :
    Calls Try.prog 65 #[.pointer (some ⟨z.q, 0, none⟩), .int .u64 (m.term : Int), .int .i64 kind, .string d] w fun e w' =>
      e = .returned (.tuple #[.agg #[.int .u64 (x.term : Int), .int .u64 (x.idx : Int), .int .i64 x.kind, .string x.data], .int .i64 k]) ∧ ∃ v', PAt B w' p { z with vg := v' } { m with g := g } ∧ Grow p z { z with vg := v' } w w' := by
  have hes := f.es
  have := RlgWalkH.add_any h.log f.fine m.term kind d f.term k0 k1 hd (by omega)
  rw [hr] at this
  refine this.mono ?_
  rintro e w' ⟨rfl, hl⟩
  obtain ⟨v', h', g'⟩ := NodeAt.logged h hl
  exact ⟨rfl, v', h', g'⟩
set_option maxHeartbeats 4000000 in
theorem add_any (h : PAt B w p z m) (f : NdB N m) (hr : m.role = 2) (hN : N ≤ 800000000) (kind : Int) (d : ByteArray) (k0 : -9223372036854775808 ≤ kind) (k1 : kind ≤ 9223372036854775807) (hd : d.size ≤ 9223372036854775807) :
    Calls Try.prog 46 #[.pointer (some ⟨p, 0, none⟩), .int .i64 kind, .string d] w fun e w' => e = .returned (.tuple #[.int .u64 ((add m kind d).1.1 : Int), .int .i64 (add m kind d).1.2]) ∧ LeftP B w p z (add m kind d).2 w' := by
  have c5 := h.c5
  have c7 := h.c7
  have hplt := h.plt
  obtain ⟨⟨⟨x, k⟩, g⟩, hR⟩ : ∃ R, Rlog.add m.g m.term kind d = R := ⟨_, rfl⟩
  have hA0 : Below w.heap.size w (w.alloc (.cells #[.int .u64 0, .int .u64 0, .int .i64 0, .string ⟨#[]⟩] 57)).drew := ((Below.refl _ w).alloc (Nat.le_refl _) _).drew
  have hnew := heap_alloc_new w (.cells #[.int .u64 0, .int .u64 0, .int .i64 0, .string ⟨#[]⟩] 57)
  have hl1 := log_add h.drew f (by omega) kind d k0 k1 hd hR
  have hl2 := log_add (h.below hA0) f (by omega) kind d k0 k1 hd hR
  obtain ⟨m1, hm1⟩ : ∃ m1 : Nd, { m with g := g } = m1 := ⟨_, rfl⟩
  have hMt : m1.term = m.term := by rw [← hm1]
  have HA1 : Hid (Calls Try.prog 65 #[.pointer (some ⟨z.q, 0, none⟩), .int .u64 (m.term : Int), .int .i64 kind, .string d] w.drew fun e w' =>
      e = .returned (.tuple #[.agg #[.int .u64 (x.term : Int), .int .u64 (x.idx : Int), .int .i64 x.kind, .string x.data], .int .i64 k]) ∧ ∃ z', PAt B w' p z' m1 ∧ Grow p z z' w w') :=
    hl1.mono fun e w' ⟨e1, v', e2, e3⟩ => ⟨e1, { z with vg := v' }, hm1 ▸ e2, Grow.afterBelow ((Below.refl _ w).drew) e3⟩
  have HA2 : Hid (Calls Try.prog 65 #[.pointer (some ⟨z.q, 0, none⟩), .int .u64 (m.term : Int), .int .i64 kind, .string d] (w.alloc (.cells #[.int .u64 0, .int .u64 0, .int .i64 0, .string ⟨#[]⟩] 57)).drew fun e w' =>
      e = .returned (.tuple #[.agg #[.int .u64 (x.term : Int), .int .u64 (x.idx : Int), .int .i64 x.kind, .string x.data], .int .i64 k]) ∧ ∃ z', PAt B w' p z' m1 ∧ Grow p z z' w w' ∧ w'.heap[w.heap.size]? = some (.cells #[.int .u64 0, .int .u64 0, .int .i64 0, .string ⟨#[]⟩] 57 (0, 0)) ∧ ¬ Mine p z' w.heap.size ∧ ∀ y ∈ z'.Z, Off (fun q => q = w.heap.size) y.2.A y.2.n) := by
    refine hl2.mono fun e w' ⟨e1, v', e2, e3⟩ => ⟨e1, { z with vg := v' }, hm1 ▸ e2, Grow.afterBelow hA0 e3, ?_, ?_, ?_⟩
    · exact e3.block (k := w.heap.size) hnew fun hm => by have := (NodeAt.mine_lt h hm).2; omega
    · intro hm
      rcases e3.new _ hm with h1 | h1
      · have := (NodeAt.mine_lt h h1).2; omega
      · have : (w.alloc (.cells #[.int .u64 0, .int .u64 0, .int .i64 0, .string ⟨#[]⟩] 57)).drew.heap.size = w.heap.size + 1 := by simp
        omega
    · intro y hy hn ad ha hq
      obtain ⟨ad', ha', hb, _⟩ := (h.fit y hy).re.2 hn
      rw [ha] at ha'
      cases ha'
      omega
  have HK : Hid (∀ W z', PAt B W p z' m1 → z'.q = z.q → W.cell? ⟨p, 7, none⟩ = some (.pointer (some ⟨z.q, 0, none⟩)) ∧ W.cell? ⟨p, 5, none⟩ = some (.int .u64 (m.term : Int))) := fun W z' hp hq => ⟨by rw [← hq]; exact PAt.c7 hp, by rw [← hMt]; exact PAt.c5 hp⟩
  have HK0 : Hid (∀ W, Below w.heap.size w W → W.cell? ⟨p, 7, none⟩ = some (.pointer (some ⟨z.q, 0, none⟩)) ∧ W.cell? ⟨p, 5, none⟩ = some (.int .u64 (m.term : Int))) := fun W hb => ⟨(h.below hb).c7, (h.below hb).c5⟩
  have HW0 : Hid (Below w.heap.size w w.drew) := (Below.refl _ w).drew
  have HA0 : Hid (Below w.heap.size w (w.alloc (.cells #[.int .u64 0, .int .u64 0, .int .i64 0, .string ⟨#[]⟩] 57))) := (Below.refl _ w).alloc (Nat.le_refl _) _
  obtain ⟨T, hT⟩ : ∃ T, m.term = T := ⟨_, rfl⟩
  rw [hT] at c5 HA1 HA2 HK HK0
  have H := Lib.hid h
  have F := Lib.hid f
  have HR := Lib.hid hR
  have HM1 := Lib.hid hm1
  have HRole := Lib.hid hr
  obtain ⟨⟨⟨J, E⟩, M⟩, hM⟩ : ∃ R, Nod.add m kind d = R := ⟨_, rfl⟩
  rw [hM]
  simp only
  have HM := Lib.hid hM
  clear hA0 hnew hl1 hl2 hm1 hMt hT h f hR hr hM
  go_enter Try.func46, Try.ntmps46
  go_wp2_with fail
  go_upto_region 1 with fail
  go_cut [8, 9] from 8 to 25 (fun a b wx => Mid B w p z m1 x k a b wx)
  case first =>
    go_wp2_with fail
    go_region_held3 (fun W => W.cell? ⟨p, 7, none⟩ = some (.pointer (some ⟨z.q, 0, none⟩)) ∧ W.cell? ⟨p, 5, none⟩ = some (.int .u64 (T : Int)))
      (first
        | (with_reducible exact HK0.out _ HW0.out)
        | (with_reducible exact HK0.out _ HA0.out.drew)
        | (with_reducible exact HK0.out _ HA0.out)
        | (with_reducible exact HKA.out)
        | (with_reducible exact HKB.out _)
        | (with_reducible exact HKS.out))
      (first
        | (go_at_call 65
           with_reducible refine HA1.out.mono ?_
           rintro e wA ⟨rfl, z1, h1, g1⟩
           have HKA := Lib.hid (HK.out _ _ h1 g1.q)
           have HKB := Lib.hid (fun o => HK.out _ _ (h1.below ((Below.refl _ wA).alloc (Nat.le_refl _) o)) g1.q)
           have HMid := Lib.hid (mid_late (x := x) (k := k) h1 g1)
           clear h1 g1)
        | (go_at_call 65
           with_reducible refine HA2.out.mono ?_
           rintro e wA ⟨rfl, z1, h1, g1, hbx, hnm, hoff⟩
           have HKA := Lib.hid (HK.out _ _ h1 g1.q)
           have x0 : wA.cell? ⟨w.heap.size, 0, none⟩ = some (.int .u64 0) := cell_at hbx 0
           have x1 : wA.cell? ⟨w.heap.size, 1, none⟩ = some (.int .u64 0) := cell_at hbx 1
           have x2 : wA.cell? ⟨w.heap.size, 2, none⟩ = some (.int .i64 0) := cell_at hbx 2
           have x3 : wA.cell? ⟨w.heap.size, 3, none⟩ = some (.string ⟨#[]⟩) := cell_at hbx 3
           have y0 := free_at hbx 0
           have y1 := free_at hbx 1
           have y2 := free_at hbx 2
           have y3 := free_at hbx 3
           obtain ⟨s1, s2⟩ := EBox.set hbx x
           have h2 : PAt B _ p z1 m1 := NodeAt.keep h1 s2 (fun b hb e => hnm (e ▸ hb)) hoff
           have HKS := Lib.hid (HK.out _ _ h2 g1.q)
           have HMid : Hid (Mid B w p z m1 x k (.pointer (some ⟨w.heap.size, 0, none⟩)) (.int .i64 k) _) := Lib.hid ⟨w.heap.size, z1, rfl, rfl, s1, h2, g1.boxed (Nat.le_refl _) s2, Nat.le_refl _, hnm⟩
           clear hbx hnm hoff h1 h2 g1 s1 s2))
    all_goals go_wp2_with fail
    all_goals go_meet
    all_goals (with_reducible exact HMid.out)
  case rest =>
    obtain ⟨r, z1, rfl, rfl, hbx, h1, g1, hr, hnm⟩ := hcut
    have hrl := lt_at hbx.blk
    cases hc : canAdd m kind d with
    | false =>
      have hcc : addOk m.g m.term kind d = false := hc
      have e1 : ((x, k), g) = ((noEnt, 1), m.g) := by rw [← HR.out]; unfold Rlog.add; rw [hcc, if_neg (by simp)]
      have e2 : ((J, E), M) = ((0, 1), m) := by rw [← HM.out]; unfold Nod.add; rw [hc, if_neg (by simp)]
      cases e1
      have hJ : J = 0 ∧ E = 1 ∧ M = m := by cases e2; exact ⟨rfl, rfl, rfl⟩
      have HJ := Lib.hid hJ
      have h1' : PAt B wc p z1 m := by have := h1; rw [← HM1.out] at this; exact this
      have HE := Lib.hid (show LeftP B w p z m wc from ⟨z1, h1', g1⟩)
      clear h1 h1' g1 hbx hnm hc hcc e2 hJ
      go_wp2
      go_ret2
      obtain ⟨j1, j2, j3⟩ := HJ.out
      rw [j1, j2, j3]
      exact ⟨rfl, HE.out⟩
    | true =>
      have hcc : addOk m.g m.term kind d = true := hc
      have e1 : ((x, k), g) = ((ent m kind d, 0), { m.g with es := m.g.es ++ [ent m kind d] }) := by rw [← HR.out]; unfold Rlog.add; rw [if_pos hcc]; rfl
      have e2 : ((J, E), M) = (((ent m kind d).idx, 0), advance (beat (added m kind d))) := by rw [← HM.out]; unfold Nod.add; rw [if_pos hc]
      have F1 := logd_b F.out kind d k0 k1 hd hc
      have F2 := added_b F.out HRole.out (by omega) kind d k0 k1 hd hc
      have hId := F.out.id
      have e3 : m1 = { m with g := (added m kind d).g } := by rw [← HM1.out]; cases e1; rfl
      have e4 : added m kind d = { keep m1 [ent m kind d] with mat := m1.mat.set m1.id (ent m kind d).idx } := by rw [e3]; rfl
      have e5 : m1.id = m.id := by rw [e3]
      have e6 : x = ent m kind d ∧ k = 0 := by cases e1; exact ⟨rfl, rfl⟩
      rw [← e3] at F1
      rw [← e6.1] at e4 e2
      obtain ⟨M2, hM2⟩ : ∃ M2, added m kind d = M2 := ⟨_, rfl⟩
      rw [hM2] at e4 F2 e2
      have hJ : J = x.idx ∧ E = 0 ∧ M = advance (beat M2) := by cases e2; exact ⟨rfl, rfl, rfl⟩
      have HJ := Lib.hid hJ
      obtain ⟨e6, rfl⟩ := e6
      have HE4 := Lib.hid e4
      have HF1 := Lib.hid F1
      have HF2 := Lib.hid F2
      have H1 := Lib.hid h1
      have G1 := Lib.hid g1
      have HNm := Lib.hid hnm
      have HBx := Lib.hid hbx
      have HE5 := Lib.hid e5
      have b0 : wc.cell? ⟨r, 0, none⟩ = some (.int .u64 (x.term : Int)) := by rw [cell_at hbx.blk]; rfl
      have b1 : wc.cell? ⟨r, 1, none⟩ = some (.int .u64 (x.idx : Int)) := by rw [cell_at hbx.blk]; rfl
      have b2 : wc.cell? ⟨r, 2, none⟩ = some (.int .i64 x.kind) := by rw [cell_at hbx.blk]; rfl
      have b3 : wc.cell? ⟨r, 3, none⟩ = some (.string x.data) := by rw [cell_at hbx.blk]; rfl
      have hal : ∀ o, Below wc.heap.size wc (wc.alloc o).drew := fun o => ((Below.refl _ wc).alloc (Nat.le_refl _) o).drew
      have hkeep : Calls Try.prog 53 #[.pointer (some ⟨p, 0, none⟩), .slice (some ⟨wc.heap.size, 0, none⟩) 1 1] (wc.alloc (.cells #[.int .u64 (x.term : Int), .int .u64 (x.idx : Int), .int .i64 x.kind, .string x.data] 57)).drew (Does B (wc.alloc (.cells #[.int .u64 (x.term : Int), .int .u64 (x.idx : Int), .int .i64 x.kind, .string x.data] 57)).drew p z1 (keep m1 [x])) :=
        keep_some (h1.below (hal _)) F1 (by omega) _ 1 1 [x] ((Reads.drew (RlgWalkH.ent_new wc x 57)).more (by simp)) (by decide) (by decide)
      have HKp := Lib.hid hkeep
      have HAl := Lib.hid hal
      have HS0 : Hid (∀ W : World, W.heap[r]? = wc.heap[r]? → W.cell? ⟨r, 0, none⟩ = some (.int .u64 (x.term : Int)) ∧ W.cell? ⟨r, 1, none⟩ = some (.int .u64 (x.idx : Int)) ∧ W.cell? ⟨r, 2, none⟩ = some (.int .i64 x.kind) ∧ W.cell? ⟨r, 3, none⟩ = some (.string x.data)) := fun W hW => ⟨(World.cell?_of_block hW).trans b0, (World.cell?_of_block hW).trans b1, (World.cell?_of_block hW).trans b2, (World.cell?_of_block hW).trans b3⟩
      have HKP : Hid (p < wc.heap.size) := NodeAt.plt h1
      clear e1 e2 e3 e4 F1 F2 hM2 h1 g1 hnm hbx hc hcc e5 hkeep hal hJ e6
      go_wp2_with fail
      go_region_held3 (fun W => W.cell? ⟨r, 0, none⟩ = some (.int .u64 (x.term : Int)) ∧ W.cell? ⟨r, 1, none⟩ = some (.int .u64 (x.idx : Int)) ∧ W.cell? ⟨r, 2, none⟩ = some (.int .i64 x.kind) ∧ W.cell? ⟨r, 3, none⟩ = some (.string x.data))
        (first
          | exact ⟨b0, b1, b2, b3⟩
          | (with_reducible exact HS0.out _ ((HAl.out _).block r hrl))
          | (with_reducible exact HSK.out))
        (first
          | (go_at_call 53
             with_reducible refine HKp.out.mono ?_
             rintro e wK ⟨rfl, z2, h2, g2⟩
             have hbk : wK.heap[r]? = wc.heap[r]? := (g2.only.block r (Nat.lt_of_lt_of_le hrl (HAl.out _).size) HNm.out).trans ((HAl.out _).block r hrl)
             have HSK := Lib.hid (HS0.out _ hbk)
             have HBK := Lib.hid hbk
             have HN2 : Hid (¬ Mine p z2 r) := Grow.out (Grow.afterBelow (HAl.out _) g2) HNm.out hrl
             have H2 := Lib.hid h2
             have G2 := Lib.hid (G1.out.trans (Grow.afterBelow (HAl.out _) g2))
             clear h2 g2 hbk))
      have h2 := H2.out
      have q4 := PAt.c4 h2
      have fm := fun i => NodeAt.free h2 i
      have qm := PAt.mt h2 HF1.out.nl HF1.out.ml (k := m.id) hId
      have hkp := NodeAt.plt h2
      obtain ⟨h3, g3⟩ := PAt.setMt h2 HF1.out.nl hId x.idx
      have h3' : PAt B (wK.setCell ⟨p, 19 + m.id, none⟩ (.int .u64 (x.idx : Int))) p z2 M2 := by
        have := h3
        rw [HE4.out, HE5.out]
        exact this
      rw [show (keep m1 [x]).id = m.id from HE5.out] at q4
      have q1 : wK.cell? ⟨r, 1, none⟩ = some (.int .u64 (x.idx : Int)) := HSK.out.2.1
      have hbk3 : (wK.setCell ⟨p, 19 + m.id, none⟩ (.int .u64 (x.idx : Int))).heap[r]? = wc.heap[r]? := by
        rw [Below.heap_setCell _ _ _ _ (show r ≠ p from fun e => HNm.out (.inl e))]
        exact HBK.out
      have hidI : (m.id : Int) < 7 := by omega
      have hidJ : (0 : Int) ≤ (m.id : Int) := by omega
      have f19 := fm (19 + m.id)
      have H3 := Lib.hid h3'
      have G3 := Lib.hid (G2.out.trans g3)
      have HBK3 := Lib.hid hbk3
      have HN3 := HN2
      obtain ⟨I, hI⟩ : ∃ I, m.id = I := ⟨_, rfl⟩
      rw [hI] at q4 qm hidI hidJ f19 H3 G3 HBK3
      clear h2 h3 h3' g3 hbk3 fm hId HE5 hI
      go_wp2_with fail
      go_region
      generalize (wK.setCell ⟨p, 19 + I, none⟩ (.int .u64 (x.idx : Int))) = w3 at H3 G3 HBK3 ⊢
      have HBD : Hid (Below w3.heap.size w3 w3.drew) := (Below.refl _ w3).drew
      go_wp2_with fail
      with_reducible refine (beat_any (PAt.below H3.out HBD.out) HF2.out (by omega)).mono ?_
      rintro e w4 ⟨rfl, z4, h4, g4⟩
      have hr3 : r < w3.heap.size := lt_at (HBK3.out.trans HBx.out.blk)
      have hb4 : w4.heap[r]? = wc.heap[r]? := (g4.only.block r hr3 HN3.out).trans HBK3.out
      have hn4 := Grow.out g4 HN3.out hr3
      have hr4 : r < w4.heap.size := Nat.lt_of_lt_of_le hr3 g4.size
      have H4 := Lib.hid h4
      have G4 := Lib.hid (G3.out.trans (Grow.afterBelow HBD.out g4))
      clear h4 g4
      go_wp2_with fail
      with_reducible refine (advance_any H4.out (beat_b HF2.out) (by omega)).mono ?_
      rintro e w5 ⟨rfl, z5, h5, g5⟩
      have hb5 : w5.heap[r]? = wc.heap[r]? := (g5.only.block r hr4 hn4).trans hb4
      have q5 := (HS0.out w5 hb5).2.1
      have H5 := Lib.hid h5
      have G5 := Lib.hid (G4.out.trans g5)
      clear h5 g5
      go_wp2
      go_ret2
      obtain ⟨j1, j2, j3⟩ := HJ.out
      rw [j1, j2, j3]
      exact ⟨rfl, z5, H5.out, G5.out⟩
end
end Go.Proofs.Ytdbmpfongfiagaa.WalkG
set_option linter.unusedVariables false
namespace Go.Proofs.Ytdbmpfongfiagaa.RlgWalkK
open Go.RowKit Go.Proofs.Ytdbmpfongfiagaa.Kit Go.Proofs.Ytdbmpfongfiagaa.Blocks Go.Proofs.Ytdbmpfongfiagaa.Rlog Go.Proofs.Ytdbmpfongfiagaa.Ents Go.Proofs.Ytdbmpfongfiagaa.LogAt Go.Proofs.Ytdbmpfongfiagaa.App Go.Proofs.Ytdbmpfongfiagaa.RlgWalkA Go.Proofs.Ytdbmpfongfiagaa.RlgWalkB Go.Proofs.Ytdbmpfongfiagaa.RlgWalkC Go.Proofs.Ytdbmpfongfiagaa.RlgWalkD Go.Proofs.Ytdbmpfongfiagaa.RlgWalkE Go.Proofs.Ytdbmpfongfiagaa.RlgWalkF Go.Proofs.Ytdbmpfongfiagaa.RlgWalkG Go.Proofs.Ytdbmpfongfiagaa.RlgWalkH Go.Proofs.Ytdbmpfongfiagaa.RlgWalkI Go.Proofs.Ytdbmpfongfiagaa.RlgWalkJ
open Go.Proofs.Ytdbmpfongfiagaa.Quorum (sound)

/-- A call that answers a number leaves this log. -/
def Answers (T : TypeId) (B : Nat) (w : World) (p : Nat) (v : Value) (r : Int × G) (e : Ending) (w' : World) : Prop := e = .returned (.int .i64 r.1) ∧ LeftL T B w p v r.2 w'
section
variable {B p : Nat} {v : Value} {g : G} {w : World} (h : LP B w p v g) (f : Fine g)
include h
include f
/-! ### Install -/
/-- A log, and a snapshot's box beside it, since a world. -/
structure InSt (B p : Nat) (v : Value) (g : G) (s : Snap) (w W : World) : Prop where
  log : LP B W p v g
  box : Box4 W w.heap.size (.int .u64 (s.idx : Int)) (.int .u64 (s.term : Int)) (.int .u64 (s.cfg : Int)) (.string s.data) 26
  since : Below w.heap.size w W
omit h f in
theorem InSt.drewN {s : Snap} {W : World} (k : InSt B p v g s w W) (n : Nat) : InSt B p v g s w (W.drewN n) :=
  ⟨k.log.below (below_drewN (Below.refl _ _) n), k.box.below (below_drewN (Below.refl _ _) n), below_drewN k.since n⟩
omit f in
theorem InSt.new (s : Snap) : InSt B p v g s w (w.alloc (.cells #[.int .u64 (s.idx : Int), .int .u64 (s.term : Int), .int .u64 (s.cfg : Int), .string s.data] 26)) :=
  have hb : Below w.heap.size w (w.alloc (.cells #[.int .u64 (s.idx : Int), .int .u64 (s.term : Int), .int .u64 (s.cfg : Int), .string s.data] 26)) := (Below.refl _ _).alloc (Nat.le_refl _) _
  ⟨h.below hb, Box4.new w _ _ _ _ _, hb⟩
section
variable {s : Snap} (hs : SnapB s)
include hs
omit f in
set_option maxRecDepth 100000 in
theorem install_mad (h1 : sound s.cfg = false) : Calls Try.prog 54 #[.pointer (some ⟨p, 0, none⟩), snapV s] w (Answers 61 B w p v (1, g)) := by
  have hcf := hs.cfg
  obtain ⟨ix, tm, cf, d⟩ := s
  simp only at *
  have HS := Lib.hid h1
  clear h1 hs
  have hba : Below w.heap.size w (w.alloc (.cells #[.int .u64 (ix : Int), .int .u64 (tm : Int), .int .u64 (cf : Int), .string d] 26)) := (Below.refl _ _).alloc (Nat.le_refl _) _
  unfold snapV
  go_enter Try.func54, Try.ntmps54
  go_wp2_with fail
  refine (sound_hid hcf HS _).mono ?_
  rintro e w1 ⟨rfl, rfl⟩
  go_wp2
  go_ret
  exact ⟨rfl, LeftL.of_below h hba⟩
omit f in
set_option maxRecDepth 100000 in
theorem install_old (h1 : sound s.cfg = true) (h2 : s.idx ≤ g.snap.idx) : Calls Try.prog 54 #[.pointer (some ⟨p, 0, none⟩), snapV s] w (Answers 61 B w p v (20, g)) := by
  have hcf := hs.cfg
  have c0 := h.c0
  have hlt := h.lt
  obtain ⟨S, hS⟩ : ∃ S, g.snap.idx = S := ⟨_, rfl⟩
  rw [hS] at c0 h2
  obtain ⟨ix, tm, cf, d⟩ := s
  simp only at *
  have HS := Lib.hid h1
  have h21 : decide (ix ≤ S) = true := decide_eq_true h2
  clear h1 hs hS
  have hba : Below w.heap.size w (w.alloc (.cells #[.int .u64 (ix : Int), .int .u64 (tm : Int), .int .u64 (cf : Int), .string d] 26)) := (Below.refl _ _).alloc (Nat.le_refl _) _
  unfold snapV
  go_enter Try.func54, Try.ntmps54
  go_wp2_with fail
  refine (sound_hid hcf HS _).mono ?_
  rintro e w1 ⟨rfl, rfl⟩
  go_wp2_with fail
  go_quiet (fail)
  all_goals go_wp2
  all_goals go_ret
  all_goals exact ⟨rfl, LeftL.of_below h (below_drewN hba _)⟩
omit f hs in
/-- Behind drop: the snapshot is laid. -/
theorem install_end {wq w4 : World} {n : Nat} (hq : Below w.heap.size w wq) (hx : Box4 wq w.heap.size (.int .u64 (s.idx : Int)) (.int .u64 (s.term : Int)) (.int .u64 (s.cfg : Int)) (.string s.data) 26) (hL : LeftL 61 B wq p v { g with es := g.es.drop n } w4) :
    Box4 w4 w.heap.size (.int .u64 (s.idx : Int)) (.int .u64 (s.term : Int)) (.int .u64 (s.cfg : Int)) (.string s.data) 26 ∧ (∃ a b c d v', w4.heap[p]? = some (.cells #[a, b, c, d, v'] 61 (0, 0))) ∧
      LeftL 61 B w p v ⟨s, g.es.drop n⟩ ((((w4.setCell ⟨p, 0, none⟩ (.int .u64 (s.idx : Int))).setCell ⟨p, 1, none⟩ (.int .u64 (s.term : Int))).setCell ⟨p, 2, none⟩ (.int .u64 (s.cfg : Int))).setCell ⟨p, 3, none⟩ (.string s.data)) := by
  obtain ⟨v4, h4, o4, f4⟩ := hL
  refine ⟨hx.keep o4 fun e => ?_, ⟨_, _, _, _, _, h4.cell⟩, LeftL.afterBelow hq (LeftL.then o4 f4 (h4.snapped s))⟩
  have := (h.foot_lt e).2
  omega
omit f in
set_option maxRecDepth 100000 in
set_option maxHeartbeats 1000000 in
/-- A newer one, its index not in the log. -/
theorem install_far (h1 : sound s.cfg = true) (h2 : ¬ s.idx ≤ g.snap.idx) (hp : place g s.idx = none) (hl : g.es.length * 40 ≤ 140737488355328) : Calls Try.prog 54 #[.pointer (some ⟨p, 0, none⟩), snapV s] w (Answers 61 B w p v (0, ⟨s, []⟩)) := by
  have hcf := hs.cfg
  have hib := hs.idx
  have c0 := h.c0
  have hlt := h.lt
  obtain ⟨S, hS⟩ : ∃ S, g.snap.idx = S := ⟨_, rfl⟩
  rw [hS] at c0 h2
  have HST := Lib.hid (InSt.new h s)
  obtain ⟨ix, tm, cf, d⟩ := s
  simp only at *
  have HS := Lib.hid h1
  have h21 : decide (ix ≤ S) = false := decide_eq_false h2
  have H := Lib.hid h
  have c4 := h.c4
  obtain ⟨A, c, rfl, hnc, hcm, hr⟩ := h.form
  obtain ⟨n, hn⟩ : ∃ n, g.es.length = n := ⟨_, rfl⟩
  rw [hn] at c4 hnc
  have HN := Lib.hid hn
  have HNP := Lib.hid hp
  clear h1 hs hS hp h hn hr
  unfold snapV
  go_enter Try.func54, Try.ntmps54
  go_wp2_with fail
  refine (sound_hid hcf HS _).mono ?_
  rintro e w1 ⟨rfl, rfl⟩
  go_wp2_with fail
  go_quiet (fail)
  have hst := HST.out.drewN nq
  generalize (w.alloc (.cells #[.int .u64 (ix : Int), .int .u64 (tm : Int), .int .u64 (cf : Int), .string d] 26)).drewN nq = wq at hst ⊢
  have c4q := hst.log.c4
  rw [HN.out] at c4q
  have HQ := Lib.hid hst
  have hltq := hst.log.lt
  have x0 := hst.box.c0
  have x1 := hst.box.c1
  have hltx := hst.box.lt
  simp only at x0 x1
  have HPL := Lib.hid (place_not hst.log hib HNP.out)
  clear hst
  go_wp2_with fail
  refine HPL.out.mono ?_
  rintro e w1 ⟨rfl, rfl⟩
  go_wp2_with fail
  go_quiet (fail)
  have hsr := HQ.out.drewN nq
  generalize wq.drewN nq = wr at hsr ⊢
  have y0 := hsr.box.c0
  have y1 := hsr.box.c1
  have y2 := hsr.box.c2
  have y3 := hsr.box.c3
  have hlty := hsr.box.lt
  have HSR := Lib.hid hsr
  simp only at y0 y1 y2 y3
  clear hsr
  go_wp2_with fail
  refine (drop_any HSR.out.log n (by rw [HN.out]; exact Nat.le_refl _) hl).mono ?_
  rintro e w4 ⟨rfl, hL⟩
  obtain ⟨hx4, ⟨a1, a2, a3, a4, v', hc4⟩, hfin⟩ := install_end (s := ⟨ix, tm, cf, d⟩) H.out HSR.out.since HSR.out.box hL
  have z0 := hx4.c0
  have z1 := hx4.c1
  have z2 := hx4.c2
  have z3 := hx4.c3
  have hlt4 := lt_at hc4
  have hltz := hx4.lt
  have q0 : w4.cell? ⟨p, 0, none⟩ = some a1 := by rw [cell_at hc4]; rfl
  have q1 : w4.cell? ⟨p, 1, none⟩ = some a2 := by rw [cell_at hc4]; rfl
  have q2 : w4.cell? ⟨p, 2, none⟩ = some a3 := by rw [cell_at hc4]; rfl
  have q3 : w4.cell? ⟨p, 3, none⟩ = some a4 := by rw [cell_at hc4]; rfl
  have f0 := free_at hc4 0
  have f1 := free_at hc4 1
  have f2 := free_at hc4 2
  have f3 := free_at hc4 3
  simp only at z0 z1 z2 z3
  have HFin := Lib.hid hfin
  clear hfin hx4 hc4 hL
  go_wp2
  go_ret
  have hF := HFin.out
  rw [List.drop_of_length_le (by rw [HN.out]; exact Nat.le_refl _)] at hF
  exact ⟨rfl, hF⟩
omit f in
set_option maxRecDepth 100000 in
set_option maxHeartbeats 1000000 in
/-- A newer one, its index in the log, with the term b tells of. -/
theorem install_near {k : Nat} {ee : Ent} (h1 : sound s.cfg = true) (h2 : ¬ s.idx ≤ g.snap.idx) (hp : place g s.idx = some k) (hk : g.es[k]? = some ee) (hl : g.es.length * 40 ≤ 140737488355328) (ht : ee.term = s.term) :
    Calls Try.prog 54 #[.pointer (some ⟨p, 0, none⟩), snapV s] w (Answers 61 B w p v (0, ⟨s, g.es.drop (k + 1)⟩)) := by
  have hcf := hs.cfg
  have hib := hs.idx
  have c0 := h.c0
  have hlt := h.lt
  obtain ⟨S, hS⟩ : ∃ S, g.snap.idx = S := ⟨_, rfl⟩
  rw [hS] at c0 h2
  have HST := Lib.hid (InSt.new h s)
  obtain ⟨ix, tm, cf, d⟩ := s
  simp only at *
  have HS := Lib.hid h1
  have h21 : decide (ix ≤ S) = false := decide_eq_false h2
  have H := Lib.hid h
  have c4 := h.c4
  obtain ⟨A, c, rfl, hnc, hcm, hr⟩ := h.form
  have hkl := (place_lt hp).1
  obtain ⟨b, o, e', rfl, hbl, he', hfour⟩ := RE.at_ hr hkl
  obtain rfl : ee = e' := by rw [hk] at he'; exact Option.some.inj he'
  have d0 := hfour.c0
  rw [ht] at d0
  obtain ⟨n, hn⟩ : ∃ n, g.es.length = n := ⟨_, rfl⟩
  rw [hn] at c4 hnc hkl
  have HN := Lib.hid hn
  have HNP := Lib.hid hp
  have HK1 : Hid (((k + 1 : Nat) : Int) = (k : Int) + 1) := by show _ = _; omega
  clear h1 hs hS hp h hn hr hk ht he' hfour
  unfold snapV
  go_enter Try.func54, Try.ntmps54
  go_wp2_with fail
  refine (sound_hid hcf HS _).mono ?_
  rintro e w1 ⟨rfl, rfl⟩
  go_wp2_with fail
  go_quiet (fail)
  have hst := HST.out.drewN nq
  generalize (w.alloc (.cells #[.int .u64 (ix : Int), .int .u64 (tm : Int), .int .u64 (cf : Int), .string d] 26)).drewN nq = wq at hst ⊢
  have c4q := hst.log.c4
  rw [HN.out] at c4q
  have HQ := Lib.hid hst
  have hltq := hst.log.lt
  have x0 := hst.box.c0
  have x1 := hst.box.c1
  have hltx := hst.box.lt
  simp only at x0 x1
  have HPL := Lib.hid (place_some hst.log hib HNP.out)
  have d0q := (hst.since.cell (p := ⟨b, o + k * 4, none⟩) hbl).trans d0
  have heq : ((tm : Int) == (tm : Int)) = true := by simp
  clear hst
  go_wp2_with fail
  refine HPL.out.mono ?_
  rintro e w1 ⟨rfl, rfl⟩
  go_wp2_with fail
  go_quiet (fail)
  have hsr := HQ.out.drewN nq
  generalize wq.drewN nq = wr at hsr ⊢
  have y0 := hsr.box.c0
  have y1 := hsr.box.c1
  have y2 := hsr.box.c2
  have y3 := hsr.box.c3
  have hlty := hsr.box.lt
  have HSR := Lib.hid hsr
  simp only at y0 y1 y2 y3
  clear hsr
  go_wp2_with fail
  have hdrop := drop_any HSR.out.log (k + 1) (by rw [HN.out]; omega) hl
  rw [HK1.out] at hdrop
  refine hdrop.mono ?_
  rintro e w4 ⟨rfl, hL⟩
  obtain ⟨hx4, ⟨a1, a2, a3, a4, v', hc4⟩, hfin⟩ := install_end (s := ⟨ix, tm, cf, d⟩) H.out HSR.out.since HSR.out.box hL
  have z0 := hx4.c0
  have z1 := hx4.c1
  have z2 := hx4.c2
  have z3 := hx4.c3
  have hlt4 := lt_at hc4
  have hltz := hx4.lt
  have q0 : w4.cell? ⟨p, 0, none⟩ = some a1 := by rw [cell_at hc4]; rfl
  have q1 : w4.cell? ⟨p, 1, none⟩ = some a2 := by rw [cell_at hc4]; rfl
  have q2 : w4.cell? ⟨p, 2, none⟩ = some a3 := by rw [cell_at hc4]; rfl
  have q3 : w4.cell? ⟨p, 3, none⟩ = some a4 := by rw [cell_at hc4]; rfl
  have f0 := free_at hc4 0
  have f1 := free_at hc4 1
  have f2 := free_at hc4 2
  have f3 := free_at hc4 3
  simp only at z0 z1 z2 z3
  have HFin := Lib.hid hfin
  clear hfin hx4 hc4 hL
  go_wp2
  go_ret
  exact ⟨rfl, HFin.out⟩
omit f in
set_option maxRecDepth 100000 in
set_option maxHeartbeats 1000000 in
theorem install_other {k : Nat} {ee : Ent} (h1 : sound s.cfg = true) (h2 : ¬ s.idx ≤ g.snap.idx) (hp : place g s.idx = some k) (hk : g.es[k]? = some ee) (hl : g.es.length * 40 ≤ 140737488355328) (ht : ee.term ≠ s.term) :
    Calls Try.prog 54 #[.pointer (some ⟨p, 0, none⟩), snapV s] w (Answers 61 B w p v (0, ⟨s, []⟩)) := by
  have hcf := hs.cfg
  have hib := hs.idx
  have c0 := h.c0
  have hlt := h.lt
  obtain ⟨S, hS⟩ : ∃ S, g.snap.idx = S := ⟨_, rfl⟩
  rw [hS] at c0 h2
  have HST := Lib.hid (InSt.new h s)
  obtain ⟨ix, tm, cf, d⟩ := s
  simp only at *
  have HS := Lib.hid h1
  have h21 : decide (ix ≤ S) = false := decide_eq_false h2
  have H := Lib.hid h
  have c4 := h.c4
  obtain ⟨A, c, rfl, hnc, hcm, hr⟩ := h.form
  have hkl := (place_lt hp).1
  obtain ⟨b, o, e', rfl, hbl, he', hfour⟩ := RE.at_ hr hkl
  obtain rfl : ee = e' := by rw [hk] at he'; exact Option.some.inj he'
  have d0 := hfour.c0
  have heq : ((ee.term : Int) == (tm : Int)) = false := by simp; omega
  obtain ⟨te, hte⟩ : ∃ te, ee.term = te := ⟨_, rfl⟩
  rw [hte] at d0 heq
  obtain ⟨n, hn⟩ : ∃ n, g.es.length = n := ⟨_, rfl⟩
  rw [hn] at c4 hnc hkl
  have HN := Lib.hid hn
  have HNP := Lib.hid hp
  clear h1 hs hS hp h hn hr hk ht he' hfour hte
  unfold snapV
  go_enter Try.func54, Try.ntmps54
  go_wp2_with fail
  refine (sound_hid hcf HS _).mono ?_
  rintro e w1 ⟨rfl, rfl⟩
  go_wp2_with fail
  go_quiet (fail)
  have hst := HST.out.drewN nq
  generalize (w.alloc (.cells #[.int .u64 (ix : Int), .int .u64 (tm : Int), .int .u64 (cf : Int), .string d] 26)).drewN nq = wq at hst ⊢
  have c4q := hst.log.c4
  rw [HN.out] at c4q
  have HQ := Lib.hid hst
  have hltq := hst.log.lt
  have x0 := hst.box.c0
  have x1 := hst.box.c1
  have hltx := hst.box.lt
  simp only at x0 x1
  have HPL := Lib.hid (place_some hst.log hib HNP.out)
  have d0q := (hst.since.cell (p := ⟨b, o + k * 4, none⟩) hbl).trans d0
  clear hst
  go_wp2_with fail
  refine HPL.out.mono ?_
  rintro e w1 ⟨rfl, rfl⟩
  go_wp2_with fail
  go_quiet (fail)
  have hsr := HQ.out.drewN nq
  generalize wq.drewN nq = wr at hsr ⊢
  have y0 := hsr.box.c0
  have y1 := hsr.box.c1
  have y2 := hsr.box.c2
  have y3 := hsr.box.c3
  have hlty := hsr.box.lt
  have HSR := Lib.hid hsr
  simp only at y0 y1 y2 y3
  clear hsr
  go_wp2_with fail
  refine (drop_any HSR.out.log n (by rw [HN.out]; exact Nat.le_refl _) hl).mono ?_
  rintro e w4 ⟨rfl, hL⟩
  obtain ⟨hx4, ⟨a1, a2, a3, a4, v', hc4⟩, hfin⟩ := install_end (s := ⟨ix, tm, cf, d⟩) H.out HSR.out.since HSR.out.box hL
  have z0 := hx4.c0
  have z1 := hx4.c1
  have z2 := hx4.c2
  have z3 := hx4.c3
  have hlt4 := lt_at hc4
  have hltz := hx4.lt
  have q0 : w4.cell? ⟨p, 0, none⟩ = some a1 := by rw [cell_at hc4]; rfl
  have q1 : w4.cell? ⟨p, 1, none⟩ = some a2 := by rw [cell_at hc4]; rfl
  have q2 : w4.cell? ⟨p, 2, none⟩ = some a3 := by rw [cell_at hc4]; rfl
  have q3 : w4.cell? ⟨p, 3, none⟩ = some a4 := by rw [cell_at hc4]; rfl
  have f0 := free_at hc4 0
  have f1 := free_at hc4 1
  have f2 := free_at hc4 2
  have f3 := free_at hc4 3
  simp only at z0 z1 z2 z3
  have HFin := Lib.hid hfin
  clear hfin hx4 hc4 hL
  go_wp2
  go_ret
  have hF := HFin.out
  rw [List.drop_of_length_le (by rw [HN.out]; exact Nat.le_refl _)] at hF
  exact ⟨rfl, hF⟩
omit f in
/-- Whatever snapshot comes. -/
theorem install_any (hl : g.es.length * 40 ≤ 140737488355328) : Calls Try.prog 54 #[.pointer (some ⟨p, 0, none⟩), snapV s] w (Answers 61 B w p v (install g s)) := by
  unfold install
  cases h1 : sound s.cfg with
  | false => rw [if_pos rfl]; exact install_mad h hs h1
  | true =>
    rw [if_neg (by simp)]
    by_cases h2 : s.idx ≤ g.snap.idx
    · rw [if_pos h2]; exact install_old h hs h1 h2
    · rw [if_neg h2]
      unfold behind
      cases hp : place g s.idx with
      | none => exact install_far h hs h1 h2 hp hl
      | some k =>
        have hk := List.getElem?_eq_getElem (place_lt hp).1
        simp only [hk, Option.map_some, Option.some.injEq]
        by_cases ht : (g.es[k]'(place_lt hp).1).term = s.term
        · rw [if_pos ht]; exact install_near h hs h1 h2 hp hk hl ht
        · rw [if_neg ht]; exact install_other h hs h1 h2 hp hk hl ht
end
end
end Go.Proofs.Ytdbmpfongfiagaa.RlgWalkK
namespace Go.Proofs.Ytdbmpfongfiagaa.Change
open Go.RowKit Go.Proofs.Ytdbmpfongfiagaa.Kit Go.Proofs.Ytdbmpfongfiagaa.Blocks Go.Proofs.Ytdbmpfongfiagaa.Quorum Go.Proofs.Ytdbmpfongfiagaa.QuoWalkA Go.Proofs.Ytdbmpfongfiagaa.QuoWalkB Go.Proofs.Ytdbmpfongfiagaa.QuoWalkC Go.Proofs.Ytdbmpfongfiagaa.QuoWalkD

theorem sound_hid {c : Nat} {b : Bool} (hc : c < 2 ^ 64) (h : Hid (sound c = b)) (w : World) : Calls Try.prog 15 #[.int .u64 (c : Int)] w fun e w' => e = .returned (.bool b) ∧ w = w' := by
  have := sound_any c hc w
  rwa [h.out] at this
/-- A pair of numbers is handed back. -/
def Pair (r : Nat × Nat) (e : Ending) : Prop := e = .returned (.tuple #[.int .u64 (r.1 : Int), .int .i64 (r.2 : Int)])
theorem change_no {c : Nat} {add : Bool} {n : Int} (h : ¬ (sound c = true ∧ node n = true)) : change c add n = (0, 1) := if_neg h
theorem change_yes {c i : Nat} {add : Bool} (hs : sound c = true) (hi : i < 7) : change c add (i : Int) = turn c add i := by
  unfold change
  rw [if_pos ⟨hs, node_of hi⟩, Int.toNat_natCast]
theorem sound_lt {c : Nat} (h : sound c = true) : 0 < c ∧ c < 128 := of_decide_eq_true h


end Go.Proofs.Ytdbmpfongfiagaa.Change
set_option linter.unusedVariables false
namespace Go.Proofs.Ytdbmpfongfiagaa.WalkH
open Go.RowKit Go.Proofs.Ytdbmpfongfiagaa.Kit Go.Proofs.Ytdbmpfongfiagaa.Blocks Go.Proofs.Ytdbmpfongfiagaa.Rlog Go.Proofs.Ytdbmpfongfiagaa.Ents Go.Proofs.Ytdbmpfongfiagaa.LogAt Go.Proofs.Ytdbmpfongfiagaa.Nod Go.Proofs.Ytdbmpfongfiagaa.NodAt Go.Proofs.Ytdbmpfongfiagaa.AppL Go.Proofs.Ytdbmpfongfiagaa.WalkA Go.Proofs.Ytdbmpfongfiagaa.WalkB Go.Proofs.Ytdbmpfongfiagaa.WalkC Go.Proofs.Ytdbmpfongfiagaa.WalkD Go.Proofs.Ytdbmpfongfiagaa.WalkE Go.Proofs.Ytdbmpfongfiagaa.WalkF Go.Proofs.Ytdbmpfongfiagaa.WalkG
open Go.Proofs.Ytdbmpfongfiagaa.Told (unums)
open Go.Proofs.Ytdbmpfongfiagaa.Quorum (mem size need sound maj node has turn change)

/-- The first k of seven are X. -/
def fillN (X k : Nat) : List Nat := (List.range 7).map fun i => if i < k then X else 0
theorem fillN_len (X k : Nat) : (fillN X k).length = 7 := by simp [fillN]
theorem fillN_set (X k : Nat) (hk : k < 7) : (fillN X k).set k X = fillN X (k + 1) := by
  apply List.ext_getElem?
  intro i
  rw [List.getElem?_set]
  unfold fillN
  by_cases hi : i < 7
  · by_cases hik : k = i
    · subst hik; simp [hi]
    · have e : i < k + 1 ↔ i < k := by omega
      simp [hik, hi, e]
  · have hik : k ≠ i := by omega
    simp [hik, hi]
theorem fillN_zero (X : Nat) : fillN X 0 = zeros := rfl
theorem fillN_all (X : Nat) : fillN X 7 = evens X := rfl
section
variable {B p N : Nat} {z : Seat} {m : Nd} {w : World}
set_option maxHeartbeats 2000000 in
theorem lead_any (h : PAt B w p z m) (f : NdB N m) (hN : N ≤ 800000000) : Calls Try.prog 32 #[.pointer (some ⟨p, 0, none⟩)] w (Does B w p z (lead m)) := by
  have c8 := h.c8
  have c11 := h.c11
  have hplt := h.plt
  have hv := f.votes
  have hcl := cfg_lt f
  by_cases hr : m.role = 1
  · have hmem := members_any h.drew f
    have hmaj := fun W => QuoWalkB.maj_any (cfg m) m.votes (by omega) (by omega) W
    obtain ⟨b, hb⟩ : ∃ b, maj (cfg m) m.votes = b := ⟨_, rfl⟩
    rw [hb] at hmaj
    obtain ⟨A, hA⟩ : ∃ A, cfg m = A := ⟨_, rfl⟩
    obtain ⟨V, hV⟩ : ∃ V, m.votes = V := ⟨_, rfl⟩
    rw [hA] at hmem hmaj
    rw [hV] at c11 hmaj
    have c8 : w.cell? ⟨p, 8, none⟩ = some (.int .i64 1) := by rw [hr] at c8; exact c8
    obtain ⟨M, hM⟩ : ∃ M, lead m = M := ⟨_, rfl⟩
    rw [hM]
    have H := Lib.hid h
    have F := Lib.hid f
    have HMem := Lib.hid hmem
    have HMaj := Lib.hid hmaj
    have HMM : Hid (M = if b = true then (Nod.add (leads m) 0 ByteArray.empty).2 else m) := Lib.hid (by rw [← hM, ← hb]; unfold lead; by_cases e : maj (cfg m) m.votes = true <;> simp [hr, e])
    have HRole := Lib.hid hr
    clear hmem hmaj hb hA hV hM h f hr hv hcl
    go_enter Try.func32, Try.ntmps32
    go_wp2_with fail
    go_region_held3 (fun W => W.cell? ⟨p, 8, none⟩ = some (.int .i64 1) ∧ W.cell? ⟨p, 11, none⟩ = some (.int .u64 (V : Int)))
      (first
        | exact ⟨c8, c11⟩
        | (with_reducible exact HKA.out))
      (first
        | (go_at_call 42
           with_reducible refine HMem.out.mono ?_
           rintro e wA ⟨rfl, hBa⟩
           have HKA := Lib.hid (And.intro ((hBa.cell (p := ⟨p, 8, none⟩) hplt).trans c8) ((hBa.cell (p := ⟨p, 11, none⟩) hplt).trans c11))
           have HB1 : Hid (Below w.heap.size w wA) := (Below.refl _ w).drew.trans hBa
           clear hBa)
        | (go_at_call 45
           with_reducible refine (HMaj.out _).mono ?_
           rintro e wC ⟨rfl, rfl⟩))
    have h1 := H.out.below HB1.out
    cases b with
    | false =>
      have HM2 : Hid (M = m) := Lib.hid (by rw [HMM.out]; simp)
      have HH1 := Lib.hid h1
      clear h1
      go_wp2
      (try simp only [Exit.inBlock, Exit.then]); refine bodyPost_ret (results_none rfl _ _ _) rfl ?_
      rw [HM2.out]
      exact ⟨rfl, z, HH1.out, Grow.of_below z HB1.out⟩
    | true =>
      have HM2 : Hid (M = (Nod.add (leads m) 0 ByteArray.empty).2) := Lib.hid (by rw [HMM.out, if_pos rfl])
      have d4 := h1.c4
      have e8 := h1.c8
      have e9 := h1.c9
      have g8 := NodeAt.free h1 8
      have g9 := NodeAt.free h1 9
      have hpl1 := NodeAt.plt h1
      obtain ⟨h2, g2⟩ := PAt.setTo h1 8 (.int .i64 2) { m with role := 2 } rfl rfl rfl rfl
      obtain ⟨h3, g3⟩ := PAt.setTo h2 9 (.int .i64 (m.id : Int)) { m with role := 2, leader := (m.id : Int) } rfl rfl rfl rfl
      have d7 := PAt.c7 h3
      have hlast := RlgWalkE.last_any (NodeAt.log h3) F.out.fine
      obtain ⟨LI, hLI⟩ : ∃ LI, (last m.g).1 = LI := ⟨_, rfl⟩
      obtain ⟨LT, hLT⟩ : ∃ LT, (last m.g).2 = LT := ⟨_, rfl⟩
      have hlb : LI + 1 < 18446744073709551616 := by have := F.out.top; omega
      simp only [hLI, hLT] at hlast
      have HLast := Lib.hid hlast
      have H3 := Lib.hid h3
      have G3 := Lib.hid ((Grow.of_below z HB1.out).trans (g2.trans g3))
      have HLI := Lib.hid hLI
      have hid := F.out.id
      obtain ⟨I, hI⟩ : ∃ I, m.id = I := ⟨_, rfl⟩
      rw [hI] at d4 HLast H3 G3 d7
      have HI := Lib.hid hI
      clear h1 h2 h3 g2 g3 hlast hLI hLT hI HMM
      go_wp2_with fail
      with_reducible refine HLast.out.mono ?_
      rintro e w4 ⟨rfl, hb4⟩
      have h4 := H3.out.below hb4
      have H4 := Lib.hid h4
      have G4 := Lib.hid (G3.out.thenBelow hb4)
      have hw1 : IntKind.u64.wrap ((LI : Int) + 1) = ((LI + 1 : Nat) : Int) := by rw [show (LI : Int) + 1 = ((LI + 1 : Nat) : Int) by omega]; exact IntWalk.u64_in _ (by omega)
      obtain ⟨X, hX⟩ : ∃ X, LI + 1 = X := ⟨_, rfl⟩
      rw [hX] at hw1
      have HX := Lib.hid hX
      obtain ⟨qn, qm⟩ := F.out.quiet (by rw [HRole.out]; decide)
      have H4' : Hid (PAt B w4 p z { m with id := I, role := 2, leader := (I : Int), next := fillN X 0 }) := by
        have := H4.out
        rw [qn] at this
        exact this
      have HQm := Lib.hid qm
      clear h4 hb4 hX H4 qn qm
      go_wp2
      go_loopw [4, 38] (fun _ i wr => ∃ k : Nat, k ≤ 7 ∧ i = .int .i64 (k : Int) ∧ Hid (PAt B wr p z { m with id := I, role := 2, leader := (I : Int), next := fillN X k }) ∧ Hid (Grow p z z w wr)) (fun _ i _ => 7 - (intOf i).toNat)
      case atStart => exact ⟨0, by omega, rfl, H4', G4⟩
      case round =>
        obtain ⟨k, hk, rfl, HK, HG⟩ := hrel
        by_cases hk7 : k < 7
        · obtain ⟨h5, g5⟩ := PAt.setNx HK.out (fillN_len X k) hk7 X
          have hn5 := PAt.nx HK.out (fillN_len X k) hk7
          have hf5 := NodeAt.free HK.out (12 + k)
          have hp5 := NodeAt.plt HK.out
          simp only [fillN_set X k hk7] at h5
          have H5 := Lib.hid h5
          have G5 := Lib.hid (HG.out.trans g5)
          have hkI : (k : Int) < 7 := by omega
          have hkJ : (0 : Int) ≤ (k : Int) := by omega
          clear h5 g5
          go_wp2
          go_roundw
          case rel => exact ⟨k + 1, by omega, by go_num, H5, G5⟩
          case measure => simp [intOf]; omega
        · obtain rfl : k = 7 := by omega
          have hmL : ({ m with id := I, role := 2, leader := (I : Int), next := fillN X 7 } : Nd) = leads m := by
            unfold leads
            rw [HI.out, HLI.out, HX.out, HQm.out]
            have e := HI.out
            cases m
            cases e
            cases HQm.out
            rfl
          have h6 := HK.out
          rw [hmL] at h6
          have hadd := add_any h6 (leads_b F.out (by omega)) rfl hN 0 ⟨#[]⟩ (by decide) (by decide) (by decide)
          have HAdd := Lib.hid hadd
          clear hmL h6 hadd
          go_wp2_with fail
          with_reducible refine HAdd.out.mono ?_
          rintro e w7 ⟨rfl, z7, h7, g7⟩
          have H7 := Lib.hid h7
          have G7 := Lib.hid (HG.out.trans g7)
          clear h7 g7
          go_wp2
          go_end0
          rw [HM2.out]
          exact ⟨rfl, z7, H7.out, G7.out⟩
  · have hl : lead m = m := by unfold lead; rw [if_neg (fun e => hr e.1)]
    rw [hl]
    obtain ⟨R, hR⟩ : ∃ R, m.role = R := ⟨_, rfl⟩
    rw [hR] at c8 hr
    have hne : ((R : Int) != 1) = true := by simp; omega
    have H := Lib.hid h
    clear hl h f hR
    go_enter Try.func32, Try.ntmps32
    go_wp2_with fail
    go_quiet (fail)
    go_wp2
    (try simp only [Exit.inBlock, Exit.then]); refine bodyPost_ret (results_none rfl _ _ _) rfl ?_
    exact ⟨rfl, LeftP.of_below H.out (below_drewN (Below.refl _ _) _)⟩
theorem fold_ask (m : Nd) : ∀ (l : List Nat), (l.foldl askN m).id = m.id ∧ (l.foldl askN m).g = m.g := by
  intro l
  induction l generalizing m with
  | nil => exact ⟨rfl, rfl⟩
  | cons i l ih => exact ih (askN m i)
/-- Nothing is done. -/
theorem timeout_still (h : PAt B w p z m) (f : NdB N m) (hs : m.role = 2 ∨ m.term = topN ∨ mayStand m = false) : Calls Try.prog 13 #[.pointer (some ⟨p, 0, none⟩)] w (Does B w p z (timeout m)) := by
  have ht : timeout m = m := by unfold timeout; rw [if_pos hs]
  rw [ht]
  have c8 := h.c8
  have c5 := h.c5
  obtain ⟨R, hR⟩ : ∃ R, m.role = R := ⟨_, rfl⟩
  obtain ⟨Y, hT⟩ : ∃ Y, m.term = Y := ⟨_, rfl⟩
  rw [hR] at c8 hs
  rw [hT] at c5 hs
  have hst := stand_any h f
  obtain ⟨b, hb⟩ : ∃ b, mayStand m = b := ⟨_, rfl⟩
  rw [hb] at hst hs
  have H := Lib.hid h
  have HSt := Lib.hid hst
  clear ht hst hb hR hT h f
  by_cases hr : R = 2
  · subst hr
    go_enter Try.func13, Try.ntmps13
    go_wp2
    (try simp only [Exit.inBlock, Exit.then]); refine bodyPost_ret (results_none rfl _ _ _) rfl ?_
    exact ⟨rfl, LeftP.refl H.out⟩
  · have hr2 : ((R : Int) == 2) = false := by simp; omega
    by_cases hY : Y = topN
    · have hY2 : ((Y : Int) == 18446744073709551615) = true := by rw [hY]; rfl
      clear hs hY
      go_enter Try.func13, Try.ntmps13
      go_wp2
      (try simp only [Exit.inBlock, Exit.then]); refine bodyPost_ret (results_none rfl _ _ _) rfl ?_
      exact ⟨rfl, LeftP.refl H.out⟩
    · have hY2 : ((Y : Int) == 18446744073709551615) = false := by simp; unfold topN at hY; omega
      obtain rfl : b = false := by simpa [hr, hY] using hs
      clear hs hY
      go_enter Try.func13, Try.ntmps13
      go_wp2_with fail
      with_reducible refine HSt.out.mono ?_
      rintro e w1 ⟨rfl, hb1⟩
      go_wp2
      (try simp only [Exit.inBlock, Exit.then]); refine bodyPost_ret (results_none rfl _ _ _) rfl ?_
      exact ⟨rfl, LeftP.of_below H.out hb1⟩
set_option maxHeartbeats 2000000 in
theorem timeout_go (h : PAt B w p z m) (f : NdB N m) (hN : N ≤ 700000000) (hr : m.role ≠ 2) (hT : m.term ≠ topN) (hs : mayStand m = true) : Calls Try.prog 13 #[.pointer (some ⟨p, 0, none⟩)] w (Does B w p z (timeout m)) := by
  have ht : timeout m = lead (asks (stands m)) := by unfold timeout; rw [if_neg (by rintro (e | e | e); exact hr e; exact hT e; rw [hs] at e; cases e)]
  have fs := stands_b f hr hT
  have fa := asks_b fs
  rw [ht]
  have c8 := h.c8
  have c5 := h.c5
  have hst := stand_any h f
  rw [hs] at hst
  have hid := f.id
  have htb := f.term
  obtain ⟨R, hR⟩ : ∃ R, m.role = R := ⟨_, rfl⟩
  obtain ⟨Y, hY⟩ : ∃ Y, m.term = Y := ⟨_, rfl⟩
  obtain ⟨I, hI⟩ : ∃ I, m.id = I := ⟨_, rfl⟩
  rw [hR] at c8 hr
  rw [hY] at c5 hT htb
  have hr2 : ((R : Int) == 2) = false := by simp; omega
  have hY2 : ((Y : Int) == 18446744073709551615) = false := by simp; unfold topN at hT; omega
  have hw1 : IntKind.u64.wrap ((Y : Int) + 1) = ((Y + 1 : Nat) : Int) := by rw [show (Y : Int) + 1 = ((Y + 1 : Nat) : Int) by omega]; exact IntWalk.u64_in _ (by unfold topN at hT; omega)
  obtain ⟨Y1, hY1⟩ : ∃ Y1, Y + 1 = Y1 := ⟨_, rfl⟩
  rw [hY1] at hw1
  obtain ⟨M, hM⟩ : ∃ M, lead (asks (stands m)) = M := ⟨_, rfl⟩
  rw [hM]
  obtain ⟨m1, hm1⟩ : ∃ m1, stands m = m1 := ⟨_, rfl⟩
  rw [hm1] at fs fa hM
  have H := Lib.hid h
  have F := Lib.hid f
  have FS := Lib.hid fs
  have FA := Lib.hid fa
  have HSt := Lib.hid hst
  have HM := Lib.hid hM
  have HM1 := Lib.hid hm1
  have HY := Lib.hid hY
  have HI := Lib.hid hI
  have HY1 := Lib.hid hY1
  have hidI : I < 7 := hI ▸ hid
  clear ht hst hs hR hY hI hY1 hM hm1 h f fs fa hid hT
  go_enter Try.func13, Try.ntmps13
  go_wp2_with fail
  with_reducible refine HSt.out.mono ?_
  rintro e w1 ⟨rfl, hb1⟩
  have h1 := H.out.below hb1
  have e8 := h1.c8
  have e9 := h1.c9
  have g8 := NodeAt.free h1 8
  have g9 := NodeAt.free h1 9
  have hp1 := h1.plt
  obtain ⟨h2, g2⟩ := PAt.setTo h1 8 (.int .i64 1) { m with role := 1 } rfl rfl rfl rfl
  obtain ⟨h3, g3⟩ := PAt.setTo h2 9 (.int .i64 (-1)) { m with role := 1, leader := -1 } rfl rfl rfl rfl
  have d4 := PAt.c4 h3
  have d5 := PAt.c5 h3
  have d6 := PAt.c6 h3
  have k5 := NodeAt.free h3 5
  have k6 := NodeAt.free h3 6
  rw [show ({ m with role := 1, leader := -1 } : Nd).id = I from HI.out] at d4
  rw [show ({ m with role := 1, leader := -1 } : Nd).term = Y from HY.out] at d5
  have hp3 := NodeAt.plt h3
  have G3 := Lib.hid ((Grow.of_below z hb1).trans (g2.trans g3))
  have H3 := Lib.hid h3
  clear h1 h2 h3 g2 g3 hb1
  go_wp2_with fail
  generalize (w1.setCell ⟨p, 8, none⟩ (.int .i64 1)).setCell ⟨p, 9, none⟩ (.int .i64 (-1)) = w3 at d4 d5 d6 k5 k6 hp3 G3 H3 ⊢
  obtain ⟨h5, g5⟩ := PAt.setTo H3.out 5 (.int .u64 (Y1 : Int)) { m with role := 1, leader := -1, term := Y1 } rfl rfl rfl rfl
  obtain ⟨h6, g6⟩ := PAt.setTo h5 6 (.int .i64 (I : Int)) { m with role := 1, leader := -1, term := Y1, vote := (I : Int) } rfl rfl rfl rfl
  have HD : ∀ W : World, Below W.heap.size W W.drew := fun W => (Below.refl _ W).drew
  have h7 := PAt.below h6 (HD _)
  have G7 := Lib.hid (((G3.out.trans g5).trans g6).thenBelow (HD _))
  have H7 := Lib.hid h7
  have q4 := PAt.c4 h7
  have q11 := PAt.c11 h7
  have k11 := NodeAt.free h7 11
  have hp7 := NodeAt.plt h7
  have q3 := PAt.c3 h7
  have k3 := NodeAt.free h7 3
  rw [show ({ m with role := 1, leader := -1, term := Y1, vote := (I : Int) } : Nd).id = I from HI.out] at q4
  clear h5 h6 h7 g5 g6
  go_region
  generalize ((w3.setCell ⟨p, 5, none⟩ (.int .u64 (Y1 : Int))).setCell ⟨p, 6, none⟩ (.int .i64 (I : Int))).drew = w7 at q4 q11 k11 hp7 q3 k3 G7 H7 ⊢
  have honly := only_any I hidI w7
  obtain ⟨P2, hP2⟩ : ∃ P2, 2 ^ I = P2 := ⟨_, rfl⟩
  rw [hP2] at honly
  have HOnly := Lib.hid honly
  clear honly
  obtain ⟨h8, g8'⟩ := PAt.setTo H7.out 11 (.int .u64 (P2 : Int)) { m with role := 1, leader := -1, term := Y1, vote := (I : Int), votes := P2 } rfl rfl rfl rfl
  obtain ⟨h9, g9'⟩ := PAt.setTo h8 3 (.bool true) { m with role := 1, leader := -1, term := Y1, vote := (I : Int), votes := P2, reset := true } rfl rfl rfl rfl
  have hst : ({ m with role := 1, leader := -1, term := Y1, vote := (I : Int), votes := P2, reset := true } : Nd) = m1 := by
    rw [← HM1.out]
    unfold stands
    rw [HI.out, HY.out, HY1.out, hP2]
  rw [hst] at h9
  have hlast := RlgWalkE.last_any (NodeAt.log h9) FS.out.fine
  have s7 := PAt.c7 h9
  obtain ⟨LI, hLI⟩ : ∃ LI, (last m1.g).1 = LI := ⟨_, rfl⟩
  obtain ⟨LT, hLT⟩ : ∃ LT, (last m1.g).2 = LT := ⟨_, rfl⟩
  simp only [hLI, hLT] at hlast
  have HLast := Lib.hid hlast
  have HLI := Lib.hid hLI
  have HLT := Lib.hid hLT
  have H9 := Lib.hid h9
  have G9 := Lib.hid ((G7.out.trans g8').trans g9')
  clear h8 h9 g8' g9' hlast hLI hLT hP2 hst
  go_wp2_with fail
  with_reducible refine HOnly.out.mono ?_
  rintro e w8 ⟨rfl, rfl⟩
  go_wp2_with fail
  with_reducible refine HLast.out.mono ?_
  rintro e wa ⟨rfl, hba⟩
  have ha := H9.out.below hba
  have HA := Lib.hid ha
  have GA := Lib.hid (G9.out.thenBelow hba)
  have hoth := others_any ha FS.out
  have hl7 := rest_len m1
  obtain ⟨L, hL⟩ : ∃ L, rest m1 = L := ⟨_, rfl⟩
  have hlt7 : ∀ i, i ∈ L → i < 7 := fun i hi => rest_lt (hL ▸ hi)
  have has2 : asks m1 = L.foldl askN m1 := by unfold asks; rw [hL]
  rw [hL] at hoth hl7
  have hstk : ∀ k, NdB (N + 7) ((L.take k).foldl askN m1) := fun k => (fold_b (fun j h => askN_b h j) (L.take k) FS.out).mono (Nat.add_le_add_left (Nat.le_trans (List.length_take_le' k L) hl7) N)
  have HO := Lib.hid hoth
  have HStk := Lib.hid hstk
  have HL7 := Lib.hid hlt7
  have HAs := Lib.hid has2
  clear ha hba hoth hlt7 has2 hstk hL
  go_wp2_with fail
  with_reducible refine HO.out.mono ?_
  rintro e wb ⟨v, rfl, hown, hbb⟩
  obtain ⟨A, c, rfl, hnc, hcm, hrd⟩ := own_form hown
  obtain ⟨n, hn⟩ : ∃ n, L.length = n := ⟨_, rfl⟩
  have hoff := off_nums HA.out hown
  rw [hn] at hrd hnc hl7 hoff
  have hb := HA.out.below hbb
  have HRd := Lib.hid hrd
  have HOff := Lib.hid hoff
  have HHb := Lib.hid hb
  have HN := Lib.hid hn
  have GB := Lib.hid (GA.out.thenBelow hbb)
  clear hn hown hrd hoff hb hbb
  rw [HN.out]
  go_wp2
  go_loopw [5, 71] (fun _ i wr => ∃ (k : Nat) (z' : Seat), k ≤ n ∧ i = .int .i64 (k : Int) ∧ Hid (PAt B wr p z' ((L.take k).foldl askN m1)) ∧ Hid (Grow p z z' w wr) ∧ Hid (Grow p z z' wb wr)) (fun _ i _ => n - (intOf i).toNat)
  case atStart => exact ⟨0, z, by omega, rfl, Lib.hid HHb.out, GB, Lib.hid (Grow.refl _ _ _)⟩
  case round =>
    obtain ⟨k, z', hk, rfl, HK, HG, HGb⟩ := hrel
    by_cases hkn : k < n
    · obtain ⟨b, o, j, rfl, _, hj, hcell⟩ := QuoWalkC.Reads.num (Off.reads HOff.out HGb.out.only HRd.out (Nat.le_refl _)) hkn
      have hjl : j < 7 := HL7.out j (List.mem_of_getElem? hj)
      obtain ⟨_, hfg⟩ := fold_ask m1 (L.take k)
      have hs : Calls Try.prog 31 #[.pointer (some ⟨p, 0, none⟩), .agg #[.int .i64 1, .int .i64 0, .int .i64 (j : Int), .int .u64 0, .int .u64 (LI : Int), .int .u64 (LT : Int), .int .u64 0, .bool false, .slice none 0 0, .string ⟨#[]⟩]] wr (Does B wr p z' ((L.take (k + 1)).foldl askN m1)) := by
        have := send_any HK.out (HStk.out k) (by omega) (askOf ((L.take k).foldl askN m1) j) noPl (Fit.none wr _ rfl)
        rw [fold_take askN m1 L k j hj]
        have e2 : ltV (askOf ((L.take k).foldl askN m1) j) noPl = .agg #[.int .i64 1, .int .i64 0, .int .i64 (j : Int), .int .u64 0, .int .u64 (LI : Int), .int .u64 (LT : Int), .int .u64 0, .bool false, .slice none 0 0, .string ⟨#[]⟩] := by
          unfold ltV askOf
          rw [hfg]
          simp only [HLI.out, HLT.out]
          rfl
        rw [e2] at this
        exact this
      have HS := Lib.hid hs
      clear hs hj hfg
      go_wp2_with fail
      with_reducible refine HS.out.mono ?_
      rintro e w2 ⟨rfl, z2, h2, g2⟩
      have H2 := Lib.hid h2
      have G2 := Lib.hid (HG.out.trans g2)
      have G2b := Lib.hid (HGb.out.trans g2)
      clear h2 g2
      go_wp2
      go_roundw
      case rel => exact ⟨k + 1, z2, by omega, by go_num, H2, G2, G2b⟩
      case measure => simp [intOf]; omega
    · obtain rfl : k = n := by omega
      have hA := HK.out
      rw [List.take_of_length_le (by rw [HN.out]; exact Nat.le_refl _), ← HAs.out] at hA
      have hld := lead_any hA FA.out (by omega)
      rw [HM.out] at hld
      have HLd := Lib.hid hld
      clear hA hld
      go_wp2_with fail
      with_reducible refine HLd.out.mono ?_
      rintro e w2 ⟨rfl, z2, h2, g2⟩
      have H2 := Lib.hid h2
      have G2 := Lib.hid (HG.out.trans g2)
      clear h2 g2
      go_wp2
      go_end0
      exact ⟨rfl, z2, H2.out, G2.out⟩
theorem timeout_any (h : PAt B w p z m) (f : NdB N m) (hN : N ≤ 700000000) : Calls Try.prog 13 #[.pointer (some ⟨p, 0, none⟩)] w (Does B w p z (timeout m)) := by
  by_cases hs : m.role = 2 ∨ m.term = topN ∨ mayStand m = false
  · exact timeout_still h f hs
  · exact timeout_go h f hN (fun e => hs (.inl e)) (fun e => hs (.inr (.inl e))) (by cases e : mayStand m with | true => rfl | false => exact absurd (.inr (.inr e)) hs)
end
end Go.Proofs.Ytdbmpfongfiagaa.WalkH
set_option linter.unusedVariables false
namespace Go.Proofs.Ytdbmpfongfiagaa.WalkI
open Go.RowKit Go.Proofs.Ytdbmpfongfiagaa.Kit Go.Proofs.Ytdbmpfongfiagaa.Blocks Go.Proofs.Ytdbmpfongfiagaa.Rlog Go.Proofs.Ytdbmpfongfiagaa.Ents Go.Proofs.Ytdbmpfongfiagaa.LogAt Go.Proofs.Ytdbmpfongfiagaa.Nod Go.Proofs.Ytdbmpfongfiagaa.NodAt Go.Proofs.Ytdbmpfongfiagaa.AppL Go.Proofs.Ytdbmpfongfiagaa.WalkA Go.Proofs.Ytdbmpfongfiagaa.WalkB Go.Proofs.Ytdbmpfongfiagaa.WalkC Go.Proofs.Ytdbmpfongfiagaa.WalkD Go.Proofs.Ytdbmpfongfiagaa.WalkE Go.Proofs.Ytdbmpfongfiagaa.WalkF Go.Proofs.Ytdbmpfongfiagaa.WalkG
open Go.Proofs.Ytdbmpfongfiagaa.Told (unums)
open Go.Proofs.Ytdbmpfongfiagaa.Quorum (mem size need sound maj node has turn change)

/-- What a call that answers a number and an error leaves. -/
def Tells (B : Nat) (w : World) (p : Nat) (z : Seat) (r : (Nat × Int) × Nd) (e : Ending) (w' : World) : Prop := e = .returned (.tuple #[.int .u64 (r.1.1 : Int), .int .i64 r.1.2]) ∧ LeftP B w p z r.2 w'
section
variable {B p N : Nat} {z : Seat} {m : Nd} {w : World}
theorem change_node {c : Nat} {ad : Bool} {i : Int} (h : (change c ad i).2 = 0) : 0 ≤ i ∧ i < 7 := by
  unfold change at h
  split at h
  · rename_i hc
    exact of_decide_eq_true hc.2
  · cases h
/-- Two results, one in a block that is known whole, one more. -/
theorem results_status {P : Program} {fn : Func} {a b c d : Tmp} {ty : TypeId} (h : fn.results = #[.tmp a, .tmp b, .cell c ty, .tmp d]) (tmps : Array Value) (w : World) (g : Nat) (t : TypeId) (cs : Array Value) (fr : Nat × Nat) (ds : TypeDesc)
    (hp : tmps.getD c undef = .pointer (some ⟨g, 0, none⟩)) (hg : w.heap[g]? = some (.cells cs t fr))
    (hu : P.underlying ty = some ds) (hd : (match ds with | .struct _ | .array _ _ => true | _ => false) = true) (hi : (P.info? ty).map (·.size) = some cs.size) :
    (results fn tmps).run P w = .ok (.tuple #[tmps.getD a undef, tmps.getD b undef, .agg cs, tmps.getD d undef]) w := by
  have hp' : tmps[c]?.getD undef = .pointer (some ⟨g, 0, none⟩) := by simpa using hp
  simp [results, h, hp', asAddr, Result.andThen, run_loadVar_row w g t ty cs fr ds hg hu hd hi]
/-- Role, leader, hard state, commit. -/
def StatusV (m : Nd) : Value := .tuple #[.int .i64 (m.role : Int), .int .i64 m.leader, .agg #[.int .u64 (m.term : Int), .int .i64 m.vote], .int .u64 (m.commit : Int)]
set_option maxHeartbeats 1000000 in
theorem status_any (h : PAt B w p z m) : Calls Try.prog 14 #[.pointer (some ⟨p, 0, none⟩)] w fun e w' => e = .returned (StatusV m) ∧ Below w.heap.size w w' := by
  have c5 := h.c5
  have c6 := h.c6
  have c8 := h.c8
  have c9 := h.c9
  have c10 := h.c10
  have hplt := h.plt
  unfold StatusV
  clear h
  go_enter Try.func14, Try.ntmps14
  go_wp2_with fail
  go_region
  go_wp2
  refine bodyPost_ret (results_status rfl _ _ w.heap.size 24 #[.int .u64 (m.term : Int), .int .i64 m.vote] (0, 0) _ rfl (heap_alloc_new w _) Try.underlying24 rfl (by kernel_rfl)) rfl ?_
  exact ⟨rfl, ((Below.refl _ w).alloc (Nat.le_refl _) _).drew⟩
theorem status_nil (w : World) : Calls Try.prog 14 #[.pointer none] w fun e w' => e = .returned (.tuple #[.int .i64 0, .int .i64 (-1), .agg #[.int .u64 0, .int .i64 (-1)], .int .u64 0]) ∧ Below w.heap.size w w' := by
  go_enter Try.func14, Try.ntmps14
  go_wp2
  refine bodyPost_ret (results_status rfl _ _ w.heap.size 24 #[.int .u64 0, .int .i64 (-1)] (0, 0) _ rfl (heap_alloc_new w _) Try.underlying24 rfl (by kernel_rfl)) rfl ?_
  exact ⟨rfl, (Below.refl _ w).alloc (Nat.le_refl _) _⟩
/-- A node of which all was taken. -/
def bare (z : Seat) : Seat := { z with vk := .slice none 0 0, vo := .slice none 0 0, Z := [] }
theorem PAt.bared (h : PAt B w p z m) : PAt B ((((w.setCell ⟨p, 0, none⟩ (.slice none 0 0)).setCell ⟨p, 1, none⟩ (.slice none 0 0)).setCell ⟨p, 2, none⟩ (.bool false)).setCell ⟨p, 3, none⟩ (.bool false)) p (bare z) (taken m) ∧
    Only (fun q => q = p) w ((((w.setCell ⟨p, 0, none⟩ (.slice none 0 0)).setCell ⟨p, 1, none⟩ (.slice none 0 0)).setCell ⟨p, 2, none⟩ (.bool false)).setCell ⟨p, 3, none⟩ (.bool false)) := by
  have ho : Only (fun q => q = p) w ((((w.setCell ⟨p, 0, none⟩ (.slice none 0 0)).setCell ⟨p, 1, none⟩ (.slice none 0 0)).setCell ⟨p, 2, none⟩ (.bool false)).setCell ⟨p, 3, none⟩ (.bool false)) :=
    ((((Only.refl (fun q => q = p) w).setCell (a := ⟨p, 0, none⟩) (.inr rfl) _).setCell (a := ⟨p, 1, none⟩) (.inr rfl) _).setCell (a := ⟨p, 2, none⟩) (.inr rfl) _).setCell (a := ⟨p, 3, none⟩) (.inr rfl) _
  refine ⟨⟨h.low, ?_, h.log.keep ho fun b hb e => h.d1 (e ▸ hb), World.ownsRow_nil _ _ _ _, World.ownsRow_nil _ _ _ _, rfl, by simp [bare], fun b hb => Nat.lt_of_lt_of_le (h.xlt b hb) ho.size, h.d1, by simp [bare, Value.ownBlock], by simp [bare, Value.ownBlock], fun k _ => by simp [bare, Value.ownBlock], fun k _ => by simp [bare, Value.ownBlock], fun k hk => by simp [bare, Value.ownBlock] at hk⟩, ho⟩
  rw [set_at (set_at (set_at (set_at h.cell _) _) _) _]
  rfl
theorem bare_mine {k : Nat} (h : Mine p (bare z) k) : Mine p z k := by
  rcases h with h | h | h | h
  · exact .inl h
  · exact .inr (.inl h)
  · simp [bare, Value.ownBlock] at h
  · simp [bare, Value.ownBlock] at h
theorem ready_set {W : World} {r : Nat} {a0 a1 a2 a3 a4 a5 a6 : Value} (h : W.heap[r]? = some (.cells #[a0, a1, a2, a3, a4, a5, a6] 47 (0, 0))) (t v : Int) (Ak : Option Addr) (nk ck : Nat) (i : Bool) (Ao : Option Addr) (no co : Nat) (s : Bool) (c : Int) :
    (((((((W.setCell ⟨r, 0, none⟩ (.int .u64 t)).setCell ⟨r, 1, none⟩ (.int .i64 v)).setCell ⟨r, 2, none⟩ (.slice Ak nk ck)).setCell ⟨r, 3, none⟩ (.bool i)).setCell ⟨r, 4, none⟩ (.slice Ao no co)).setCell ⟨r, 5, none⟩ (.bool s)).setCell ⟨r, 6, none⟩ (.int .u64 c)).heap[r]? =
      some (.cells #[.int .u64 t, .int .i64 v, .slice Ak nk ck, .bool i, .slice Ao no co, .bool s, .int .u64 c] 47 (0, 0)) ∧
    Only (fun q => q = r) W (((((((W.setCell ⟨r, 0, none⟩ (.int .u64 t)).setCell ⟨r, 1, none⟩ (.int .i64 v)).setCell ⟨r, 2, none⟩ (.slice Ak nk ck)).setCell ⟨r, 3, none⟩ (.bool i)).setCell ⟨r, 4, none⟩ (.slice Ao no co)).setCell ⟨r, 5, none⟩ (.bool s)).setCell ⟨r, 6, none⟩ (.int .u64 c)) := by
  refine ⟨?_, (((((((Only.refl (fun q => q = r) W).setCell (a := ⟨r, 0, none⟩) (.inr rfl) _).setCell (a := ⟨r, 1, none⟩) (.inr rfl) _).setCell (a := ⟨r, 2, none⟩) (.inr rfl) _).setCell (a := ⟨r, 3, none⟩) (.inr rfl) _).setCell (a := ⟨r, 4, none⟩) (.inr rfl) _).setCell (a := ⟨r, 5, none⟩) (.inr rfl) _).setCell (a := ⟨r, 6, none⟩) (.inr rfl) _⟩
  rw [set_at (set_at (set_at (set_at (set_at (set_at (set_at h _) _) _) _) _) _) _]
  rfl
set_option maxHeartbeats 1000000 in
theorem taken_any (h : PAt B w p z m) : Calls Try.prog 25 #[.pointer (some ⟨p, 0, none⟩)] w fun e w' =>
    e = .returned (.agg #[.int .u64 0, .int .i64 0, z.vk, .bool m.inst, z.vo, .bool m.reset, .int .u64 0]) ∧ PAt B w' p (bare z) (taken m) ∧ Only (fun q => q = p) w w' := by
  have c0 := h.c0
  have c1 := h.c1
  have c2 := h.c2
  have c3 := h.c3
  have f0 := NodeAt.free h 0
  have f1 := NodeAt.free h 1
  have f2 := NodeAt.free h 2
  have f3 := NodeAt.free h 3
  have hplt := h.plt
  obtain ⟨Ak, ck, hvk, _, _, _⟩ := own_form h.kept
  obtain ⟨Ao, co, hvo, _, _, _⟩ := own_form h.outs
  obtain ⟨nk, hnk⟩ : ∃ nk, m.kept.length = nk := ⟨_, rfl⟩
  obtain ⟨no, hno⟩ : ∃ no, z.Z.length = no := ⟨_, rfl⟩
  rw [hnk] at hvk
  rw [hno] at hvo
  rw [hvk] at c0
  rw [hvo] at c1
  have H := Lib.hid h
  have HVK := Lib.hid hvk
  have HVO := Lib.hid hvo
  clear h hnk hno hvk hvo
  go_enter Try.func25, Try.ntmps25
  go_wp2_with fail
  go_region
  have hbA : Below w.heap.size w (((w.alloc (.cells #[.int .u64 0, .int .i64 0, .slice none 0 0, .bool false, .slice none 0 0, .bool false, .int .u64 0] 47)).alloc (.cells #[.int .u64 0, .int .i64 0, .slice Ak nk ck, .bool m.inst, .slice Ao no co, .bool m.reset, .int .u64 0] 47)).drew) := (((Below.refl _ w).alloc (Nat.le_refl _) _).alloc (by simp) _).drew
  have hR1 : (((w.alloc (.cells #[.int .u64 0, .int .i64 0, .slice none 0 0, .bool false, .slice none 0 0, .bool false, .int .u64 0] 47)).alloc (.cells #[.int .u64 0, .int .i64 0, .slice Ak nk ck, .bool m.inst, .slice Ao no co, .bool m.reset, .int .u64 0] 47)).drew).heap[w.heap.size]? = some (.cells #[.int .u64 0, .int .i64 0, .slice none 0 0, .bool false, .slice none 0 0, .bool false, .int .u64 0] 47 (0, 0)) := by
    show ((w.alloc (.cells #[.int .u64 0, .int .i64 0, .slice none 0 0, .bool false, .slice none 0 0, .bool false, .int .u64 0] 47)).alloc (.cells #[.int .u64 0, .int .i64 0, .slice Ak nk ck, .bool m.inst, .slice Ao no co, .bool m.reset, .int .u64 0] 47)).heap[w.heap.size]? = _
    rw [Below.heap_alloc _ _ _ (by simp)]
    exact heap_alloc_new w _
  have hR2 : (((w.alloc (.cells #[.int .u64 0, .int .i64 0, .slice none 0 0, .bool false, .slice none 0 0, .bool false, .int .u64 0] 47)).alloc (.cells #[.int .u64 0, .int .i64 0, .slice Ak nk ck, .bool m.inst, .slice Ao no co, .bool m.reset, .int .u64 0] 47)).drew).heap[w.heap.size + 1]? = some (.cells #[.int .u64 0, .int .i64 0, .slice Ak nk ck, .bool m.inst, .slice Ao no co, .bool m.reset, .int .u64 0] 47 (0, 0)) := by
    have := heap_alloc_new (w.alloc (.cells #[.int .u64 0, .int .i64 0, .slice none 0 0, .bool false, .slice none 0 0, .bool false, .int .u64 0] 47)) (.cells #[.int .u64 0, .int .i64 0, .slice Ak nk ck, .bool m.inst, .slice Ao no co, .bool m.reset, .int .u64 0] 47)
    rw [show (w.alloc (.cells #[.int .u64 0, .int .i64 0, .slice none 0 0, .bool false, .slice none 0 0, .bool false, .int .u64 0] 47)).heap.size = w.heap.size + 1 by simp] at this
    exact this
  generalize ((w.alloc (.cells #[.int .u64 0, .int .i64 0, .slice none 0 0, .bool false, .slice none 0 0, .bool false, .int .u64 0] 47)).alloc (.cells #[.int .u64 0, .int .i64 0, .slice Ak nk ck, .bool m.inst, .slice Ao no co, .bool m.reset, .int .u64 0] 47)).drew = wA at hbA hR1 hR2 ⊢
  have hA := H.out.below hbA
  have q0 := hA.c0
  have q1 := hA.c1
  have q2 := hA.c2
  have q3 := hA.c3
  rw [HVK.out] at q0
  rw [HVO.out] at q1
  have k0 := NodeAt.free hA 0
  have k1 := NodeAt.free hA 1
  have k2 := NodeAt.free hA 2
  have k3 := NodeAt.free hA 3
  obtain ⟨R1, hr1⟩ : ∃ R, w.heap.size = R := ⟨_, rfl⟩
  obtain ⟨R2, hr2⟩ : ∃ R, w.heap.size + 1 = R := ⟨_, rfl⟩
  have hne1 : ¬ p = R1 := by omega
  have hne2 : ¬ p = R2 := by omega
  have hne3 : ¬ R1 = R2 := by omega
  have hpA : p < wA.heap.size := hA.plt
  rw [hr2] at hR2 ⊢
  rw [hr1] at hR1 ⊢
  have hl1 : R1 < wA.heap.size := lt_at hR1
  have hl2 : R2 < wA.heap.size := lt_at hR2
  obtain ⟨hB, hoB⟩ := PAt.bared hA
  have hB1 := hoB.heap hR1 (fun e => hne1 e.symm)
  have hB2 := hoB.heap hR2 (fun e => hne2 e.symm)
  generalize hwB : ((((wA.setCell ⟨p, 0, none⟩ (.slice none 0 0)).setCell ⟨p, 1, none⟩ (.slice none 0 0)).setCell ⟨p, 2, none⟩ (.bool false)).setCell ⟨p, 3, none⟩ (.bool false)) = wB at hB hoB hB1 hB2
  have x0 : wB.cell? ⟨R2, 0, none⟩ = some (.int .u64 0) := cell_at hB2 0
  have x1 : wB.cell? ⟨R2, 1, none⟩ = some (.int .i64 0) := cell_at hB2 1
  have x2 : wB.cell? ⟨R2, 2, none⟩ = some (.slice Ak nk ck) := cell_at hB2 2
  have x3 : wB.cell? ⟨R2, 3, none⟩ = some (.bool m.inst) := cell_at hB2 3
  have x4 : wB.cell? ⟨R2, 4, none⟩ = some (.slice Ao no co) := cell_at hB2 4
  have x5 : wB.cell? ⟨R2, 5, none⟩ = some (.bool m.reset) := cell_at hB2 5
  have x6 : wB.cell? ⟨R2, 6, none⟩ = some (.int .u64 0) := cell_at hB2 6
  have y0 : wB.cell? ⟨R1, 0, none⟩ = some (.int .u64 0) := cell_at hB1 0
  have y1 : wB.cell? ⟨R1, 1, none⟩ = some (.int .i64 0) := cell_at hB1 1
  have y2 : wB.cell? ⟨R1, 2, none⟩ = some (.slice none 0 0) := cell_at hB1 2
  have y3 : wB.cell? ⟨R1, 3, none⟩ = some (.bool false) := cell_at hB1 3
  have y4 : wB.cell? ⟨R1, 4, none⟩ = some (.slice none 0 0) := cell_at hB1 4
  have y5 : wB.cell? ⟨R1, 5, none⟩ = some (.bool false) := cell_at hB1 5
  have y6 : wB.cell? ⟨R1, 6, none⟩ = some (.int .u64 0) := cell_at hB1 6
  have v0 := free_at hB1 0
  have v1 := free_at hB1 1
  have v2 := free_at hB1 2
  have v3 := free_at hB1 3
  have v4 := free_at hB1 4
  have v5 := free_at hB1 5
  have v6 := free_at hB1 6
  have hl1B := lt_at hB1
  have hl2B := lt_at hB2
  have HB := Lib.hid hB
  have HoB := Lib.hid hoB
  have HB1 := Lib.hid hB1
  have HbA := Lib.hid hbA
  have HR1 := Lib.hid hr1
  clear hA hB hoB hbA hR1 hR2 hB1 hB2 hr1 hr2
  go_wp2_with fail
  obtain ⟨s1, s2⟩ := ready_set HB1.out 0 0 Ak nk ck m.inst Ao no co m.reset 0
  generalize (((((((wB.setCell ⟨R1, 0, none⟩ (.int .u64 0)).setCell ⟨R1, 1, none⟩ (.int .i64 0)).setCell ⟨R1, 2, none⟩ (.slice Ak nk ck)).setCell ⟨R1, 3, none⟩ (.bool m.inst)).setCell ⟨R1, 4, none⟩ (.slice Ao no co)).setCell ⟨R1, 5, none⟩ (.bool m.reset)).setCell ⟨R1, 6, none⟩ (.int .u64 0)) = wC at s1 s2 ⊢
  refine bodyPost_ret (results_cell_row (p := 2) (ty := 47) rfl _ _ R1 47 _ (0, 0) _ rfl s1 Try.underlying47 rfl (by kernel_rfl)) rfl ?_
  refine ⟨by rw [HVK.out, HVO.out], NodeAt.keep HB.out s2 (fun b hb e => ?_) (by simp [bare]), ?_⟩
  · subst e
    have := (NodeAt.mine_lt H.out (bare_mine hb)).2
    have := HR1.out
    omega
  · exact ((Only.of_below HbA.out).trans HoB.out).trans' s2 fun q hq => .inr (by rw [hq, HR1.out]; exact Nat.le_refl _)
/-- What Take answers. -/
def ReadyV (z : Seat) (m : Nd) : Value := .agg #[.int .u64 (m.term : Int), .int .i64 m.vote, z.vk, .bool m.inst, z.vo, .bool m.reset, .int .u64 (m.commit : Int)]
set_option maxHeartbeats 2000000 in
theorem take_any (h : PAt B w p z m) : Calls Try.prog 9 #[.pointer (some ⟨p, 0, none⟩)] w fun e w' =>
    e = .returned (ReadyV z m) ∧ PAt B w' p (bare z) (taken m) ∧ Only (fun q => q = p) w w' := by
  obtain ⟨Ak, ck, hvk, _, _, _⟩ := own_form h.kept
  obtain ⟨Ao, co, hvo, _, _, _⟩ := own_form h.outs
  obtain ⟨nk, hnk⟩ : ∃ nk, m.kept.length = nk := ⟨_, rfl⟩
  obtain ⟨no, hno⟩ : ∃ no, z.Z.length = no := ⟨_, rfl⟩
  rw [hnk] at hvk
  rw [hno] at hvo
  have hb0 : Below w.heap.size w (w.alloc (.cells #[.int .u64 0, .int .i64 0, .slice none 0 0, .bool false, .slice none 0 0, .bool false, .int .u64 0] 47)) := (Below.refl _ w).alloc (Nat.le_refl _) _
  have hr1 := heap_alloc_new w (.cells #[.int .u64 0, .int .i64 0, .slice none 0 0, .bool false, .slice none 0 0, .bool false, .int .u64 0] 47)
  have hplt := h.plt
  have ht := taken_any (h.below hb0)
  rw [hvk, hvo] at ht
  have H := Lib.hid h
  have HT := Lib.hid ht
  have HVK := Lib.hid hvk
  have HVO := Lib.hid hvo
  obtain ⟨R1, hR1⟩ : ∃ R, w.heap.size = R := ⟨_, rfl⟩
  have HB0 := Lib.hid hb0
  have HR := Lib.hid hr1
  have HR1 := Lib.hid hR1
  clear h ht hvk hvo hb0 hr1 hnk hno
  go_enter Try.func9, Try.ntmps9
  go_wp2_with fail
  with_reducible refine HT.out.mono ?_
  rintro e w1 ⟨rfl, h1, ho1⟩
  have hx1 : w1.heap[R1]? = some (.cells #[.int .u64 0, .int .i64 0, .slice none 0 0, .bool false, .slice none 0 0, .bool false, .int .u64 0] 47 (0, 0)) := by
    rw [← hR1]
    exact ho1.heap HR.out (fun e => by omega)
  have hbo : Only (fun q => q = p) w w1 := (Only.of_below HB0.out).trans ho1
  have c5 := PAt.c5 (NodeAt.drew h1)
  have c6 := PAt.c6 (NodeAt.drew h1)
  have c10 := PAt.c10 (NodeAt.drew h1)
  have hplt1 := NodeAt.plt h1
  go_wp2_with fail
  have hb2 : Below w1.heap.size w1 (w1.alloc (.cells #[.int .u64 0, .int .i64 0, .slice Ak nk ck, .bool m.inst, .slice Ao no co, .bool m.reset, .int .u64 0] 47)) := (Below.refl _ w1).alloc (Nat.le_refl _) _
  have hr3 := heap_alloc_new w1 (.cells #[.int .u64 0, .int .i64 0, .slice Ak nk ck, .bool m.inst, .slice Ao no co, .bool m.reset, .int .u64 0] 47)
  have h2 : PAt B _ p (bare z) (taken m) := NodeAt.below h1 hb2
  have hx2 := (hb2.block R1 (lt_at hx1)).trans hx1
  have ho2 := hbo.thenBelow hb2
  have hR1lt := lt_at hx1
  obtain ⟨R3, hR3⟩ : ∃ R, w1.heap.size = R := ⟨_, rfl⟩
  rw [hR3] at hr3 ⊢
  generalize (w1.alloc (.cells #[.int .u64 0, .int .i64 0, .slice Ak nk ck, .bool m.inst, .slice Ao no co, .bool m.reset, .int .u64 0] 47)) = w2 at hb2 hr3 h2 hx2 ho2 ⊢
  have hne1 : ¬ p = R3 := by omega
  have hne2 : ¬ R1 = R3 := by omega
  have hne3 : ¬ R3 = R1 := by omega
  have d5 := PAt.c5 h2
  have d6 := PAt.c6 h2
  have d10 := PAt.c10 h2
  have e5 : (taken m).term = m.term := rfl
  have e6 : (taken m).vote = m.vote := rfl
  have e10 : (taken m).commit = m.commit := rfl
  rw [e5] at d5
  rw [e6] at d6
  rw [e10] at d10
  have x0 : w2.cell? ⟨R3, 0, none⟩ = some (.int .u64 0) := cell_at hr3 0
  have f0 := free_at hr3 0
  have x1 : w2.cell? ⟨R3, 1, none⟩ = some (.int .i64 0) := cell_at hr3 1
  have f1 := free_at hr3 1
  have x2 : w2.cell? ⟨R3, 2, none⟩ = some (.slice Ak nk ck) := cell_at hr3 2
  have f2 := free_at hr3 2
  have x3 : w2.cell? ⟨R3, 3, none⟩ = some (.bool m.inst) := cell_at hr3 3
  have f3 := free_at hr3 3
  have x4 : w2.cell? ⟨R3, 4, none⟩ = some (.slice Ao no co) := cell_at hr3 4
  have f4 := free_at hr3 4
  have x5 : w2.cell? ⟨R3, 5, none⟩ = some (.bool m.reset) := cell_at hr3 5
  have f5 := free_at hr3 5
  have x6 : w2.cell? ⟨R3, 6, none⟩ = some (.int .u64 0) := cell_at hr3 6
  have f6 := free_at hr3 6
  have hp2 := NodeAt.plt h2
  have hl3 := lt_at hr3
  have hset : Only (fun q => q = R3) w2 (((w2.setCell ⟨R3, 0, none⟩ (.int .u64 (m.term : Int))).setCell ⟨R3, 1, none⟩ (.int .i64 m.vote)).setCell ⟨R3, 6, none⟩ (.int .u64 (m.commit : Int))) :=
    (((Only.refl (fun q => q = R3) w2).setCell (a := ⟨R3, 0, none⟩) (.inr rfl) _).setCell (a := ⟨R3, 1, none⟩) (.inr rfl) _).setCell (a := ⟨R3, 6, none⟩) (.inr rfl) _
  have hr4 : (((w2.setCell ⟨R3, 0, none⟩ (.int .u64 (m.term : Int))).setCell ⟨R3, 1, none⟩ (.int .i64 m.vote)).setCell ⟨R3, 6, none⟩ (.int .u64 (m.commit : Int))).heap[R3]? = some (.cells #[.int .u64 (m.term : Int), .int .i64 m.vote, .slice Ak nk ck, .bool m.inst, .slice Ao no co, .bool m.reset, .int .u64 (m.commit : Int)] 47 (0, 0)) := by
    rw [set_at (set_at (set_at hr3 _) _) _]
    rfl
  have hx4 := hset.heap hx2 hne2
  have h4 : PAt B _ p (bare z) (taken m) := NodeAt.keep h2 hset (fun b hb e => by
    subst e
    have := (NodeAt.mine_lt H.out (bare_mine hb)).2
    have := HR1.out
    have := ho1.size
    have := HB0.out.size
    omega) (by simp [bare])
  have ho4 : Only (fun q => q = p) w _ := ho2.trans' hset fun q hq => .inr (by have := hbo.size; omega)
  have HD : ∀ W : World, Below W.heap.size W W.drew := fun W => (Below.refl _ W).drew
  have hx5 := ((HD _).block R1 (lt_at hx4)).trans hx4
  have hr5 := ((HD _).block R3 (lt_at hr4)).trans hr4
  have h5 := PAt.below h4 (HD _)
  have ho5 := ho4.thenBelow (HD _)
  clear hset hx4 hr4 h4 ho4 hx2 hr3 h2 ho2 hb2 hx1 h1 ho1 hbo c5 c6 c10
  go_region
  generalize (((w2.setCell ⟨R3, 0, none⟩ (.int .u64 (m.term : Int))).setCell ⟨R3, 1, none⟩ (.int .i64 m.vote)).setCell ⟨R3, 6, none⟩ (.int .u64 (m.commit : Int))).drew = w5 at hx5 hr5 h5 ho5 ⊢
  have y0 : w5.cell? ⟨R3, 0, none⟩ = some (.int .u64 (m.term : Int)) := cell_at hr5 0
  have u0 : w5.cell? ⟨R1, 0, none⟩ = some (.int .u64 0) := cell_at hx5 0
  have v0 := free_at hx5 0
  have y1 : w5.cell? ⟨R3, 1, none⟩ = some (.int .i64 m.vote) := cell_at hr5 1
  have u1 : w5.cell? ⟨R1, 1, none⟩ = some (.int .i64 0) := cell_at hx5 1
  have v1 := free_at hx5 1
  have y2 : w5.cell? ⟨R3, 2, none⟩ = some (.slice Ak nk ck) := cell_at hr5 2
  have u2 : w5.cell? ⟨R1, 2, none⟩ = some (.slice none 0 0) := cell_at hx5 2
  have v2 := free_at hx5 2
  have y3 : w5.cell? ⟨R3, 3, none⟩ = some (.bool m.inst) := cell_at hr5 3
  have u3 : w5.cell? ⟨R1, 3, none⟩ = some (.bool false) := cell_at hx5 3
  have v3 := free_at hx5 3
  have y4 : w5.cell? ⟨R3, 4, none⟩ = some (.slice Ao no co) := cell_at hr5 4
  have u4 : w5.cell? ⟨R1, 4, none⟩ = some (.slice none 0 0) := cell_at hx5 4
  have v4 := free_at hx5 4
  have y5 : w5.cell? ⟨R3, 5, none⟩ = some (.bool m.reset) := cell_at hr5 5
  have u5 : w5.cell? ⟨R1, 5, none⟩ = some (.bool false) := cell_at hx5 5
  have v5 := free_at hx5 5
  have y6 : w5.cell? ⟨R3, 6, none⟩ = some (.int .u64 (m.commit : Int)) := cell_at hr5 6
  have u6 : w5.cell? ⟨R1, 6, none⟩ = some (.int .u64 0) := cell_at hx5 6
  have v6 := free_at hx5 6
  have hl5 := lt_at hr5
  have hl6 := lt_at hx5
  have H5 := Lib.hid h5
  have HO5 := Lib.hid ho5
  have HX5 := Lib.hid hx5
  clear h5 ho5 hx5 hr5
  go_wp2_with fail
  obtain ⟨s1, s2⟩ := ready_set HX5.out (m.term : Int) m.vote Ak nk ck m.inst Ao no co m.reset (m.commit : Int)
  generalize (((((((w5.setCell ⟨R1, 0, none⟩ (.int .u64 (m.term : Int))).setCell ⟨R1, 1, none⟩ (.int .i64 m.vote)).setCell ⟨R1, 2, none⟩ (.slice Ak nk ck)).setCell ⟨R1, 3, none⟩ (.bool m.inst)).setCell ⟨R1, 4, none⟩ (.slice Ao no co)).setCell ⟨R1, 5, none⟩ (.bool m.reset)).setCell ⟨R1, 6, none⟩ (.int .u64 (m.commit : Int))) = wC at s1 s2 ⊢
  refine bodyPost_ret (results_cell_row (p := 2) (ty := 47) rfl _ _ R1 47 _ (0, 0) _ rfl s1 Try.underlying47 rfl (by kernel_rfl)) rfl ?_
  refine ⟨by unfold ReadyV; rw [HVK.out, HVO.out], NodeAt.keep H5.out s2 (fun b hb e => ?_) (by simp [bare]), ?_⟩
  · subst e
    have := (NodeAt.mine_lt H.out (bare_mine hb)).2
    have := HR1.out
    omega
  · exact HO5.out.trans' s2 fun q hq => .inr (by rw [hq, HR1.out]; exact Nat.le_refl _)
theorem take_nil (w : World) : Calls Try.prog 9 #[.pointer none] w fun e w' => e = .returned (.agg #[.int .u64 0, .int .i64 0, .slice none 0 0, .bool false, .slice none 0 0, .bool false, .int .u64 0]) ∧ Below w.heap.size w w' := by
  go_enter Try.func9, Try.ntmps9
  go_wp2_with fail
  refine bodyPost_ret (results_cell_row (p := 2) (ty := 47) rfl _ _ w.heap.size 47 _ (0, 0) _ rfl (heap_alloc_new w _) Try.underlying47 rfl (by kernel_rfl)) rfl ?_
  exact ⟨rfl, (Below.refl _ w).alloc (Nat.le_refl _) _⟩
end
end Go.Proofs.Ytdbmpfongfiagaa.WalkI
set_option linter.unusedVariables false
namespace Go.Proofs.Ytdbmpfongfiagaa.WalkJ
open Go.RowKit Go.Proofs.Ytdbmpfongfiagaa.Kit Go.Proofs.Ytdbmpfongfiagaa.Blocks Go.Proofs.Ytdbmpfongfiagaa.Rlog Go.Proofs.Ytdbmpfongfiagaa.Ents Go.Proofs.Ytdbmpfongfiagaa.LogAt Go.Proofs.Ytdbmpfongfiagaa.Nod Go.Proofs.Ytdbmpfongfiagaa.NodAt Go.Proofs.Ytdbmpfongfiagaa.AppL Go.Proofs.Ytdbmpfongfiagaa.WalkA Go.Proofs.Ytdbmpfongfiagaa.WalkB
open Go.Proofs.Ytdbmpfongfiagaa.Told (unums)
open Go.Proofs.Ytdbmpfongfiagaa.Quorum (mem size need sound maj node has turn change)

def voteOk (v : Int) : Bool := decide (v = -1) || node v
def lastOk (t : Nat) (g : G) : Bool := decide ((last g).2 ≤ t) && decide ((last g).1 ≤ 9223372036854775808)
def newNd (i t : Nat) (v : Int) (g : G) : Nd := ⟨i, t, v, g, 0, -1, g.snap.idx, 0, zeros, zeros, [], false, [], false⟩
theorem newNd_b {i t N : Nat} {v : Int} {g : G} (hi : i < 7) (ht : t < 18446744073709551616) (hv : voteOk v = true) (hl : lastOk t g = true) (f : Fine g) (hN : g.es.length ≤ N) : NdB N (newNd i t v g) := by
  unfold voteOk at hv
  unfold lastOk at hl
  simp only [Bool.or_eq_true, Bool.and_eq_true, decide_eq_true_eq] at hv hl
  have hli := f.last_idx
  have hv2 : -1 ≤ v ∧ v < 7 := by
    rcases hv with rfl | h
    · decide
    · have := node_lt h; omega
  exact ⟨hi, ht, hv2.1, hv2.2, f, hN, Nat.zero_le _, Nat.zero_le _, by show (last g).1 ≤ _; omega, by show g.snap.idx < _; omega, by show 0 < 128; decide, Nat.zero_le _, by show (-1 : Int) ≤ -1; decide, by show (-1 : Int) < 7; decide, rfl, by show ∀ x ∈ zeros, _; decide, rfl, zeros_b, List.Pairwise.nil, fun _ => ⟨rfl, rfl⟩⟩
/-- No node. -/
def NoNode (w : World) (e : Ending) (w' : World) : Prop := e = .returned (.tuple #[.pointer none, .int .i64 1]) ∧ Below w.heap.size w w'
section
variable {B q : Nat} {v : Value} {g : G} {w : World}
theorem hbox (t : Nat) (vt : Int) (w : World) : Below w.heap.size w (w.alloc (.cells #[.int .u64 (t : Int), .int .i64 vt] 24)) := (Below.refl _ _).alloc (Nat.le_refl _) _
theorem new_id (i : Int) (t : Nat) (vt : Int) (Q : Option Addr) (hi : node i = false) (w : World) : Calls Try.prog 7 #[.int .i64 i, .agg #[.int .u64 (t : Int), .int .i64 vt], .pointer Q] w (NoNode w) := by
  have hn := fun W => node_hid (Lib.hid hi) W
  have HN := Lib.hid hn
  have HB := Lib.hid (hbox t vt w)
  clear hn hi
  go_enter Try.func7, Try.ntmps7
  go_wp2_with fail
  with_reducible refine (HN.out _).mono ?_
  rintro e w1 ⟨rfl, rfl⟩
  go_wp2
  go_ret2
  exact ⟨rfl, HB.out⟩
theorem new_none (i : Int) (t : Nat) (vt : Int) (w : World) : Calls Try.prog 7 #[.int .i64 i, .agg #[.int .u64 (t : Int), .int .i64 vt], .pointer none] w (NoNode w) := by
  cases hi : node i with
  | false => exact new_id i t vt none hi w
  | true =>
    have hn := fun W => node_hid (Lib.hid hi) W
    have HN := Lib.hid hn
    have HB := Lib.hid (hbox t vt w)
    clear hn hi
    go_enter Try.func7, Try.ntmps7
    go_wp2_with fail
    with_reducible refine (HN.out _).mono ?_
    rintro e w1 ⟨rfl, rfl⟩
    go_wp2
    go_ret2
    exact ⟨rfl, HB.out⟩
theorem new_vote (i : Int) (t : Nat) (vt : Int) (hi : node i = true) (hv : voteOk vt = false) (w : World) : Calls Try.prog 7 #[.int .i64 i, .agg #[.int .u64 (t : Int), .int .i64 vt], .pointer (some ⟨q, 0, none⟩)] w (NoNode w) := by
  have hn := fun W => node_hid (Lib.hid hi) W
  have HN := Lib.hid hn
  have HB := Lib.hid (hbox t vt w)
  unfold voteOk at hv
  simp only [Bool.or_eq_false_iff, decide_eq_false_iff_not] at hv
  have hne : (vt != -1) = true := by simpa using hv.1
  have hm := fun W => node_hid (Lib.hid hv.2) W
  have HM := Lib.hid hm
  clear hn hi hv hm
  go_enter Try.func7, Try.ntmps7
  go_wp2_with fail
  with_reducible refine (HN.out _).mono ?_
  rintro e w1 ⟨rfl, rfl⟩
  go_wp2_with fail
  with_reducible refine (HM.out _).mono ?_
  rintro e w1 ⟨rfl, rfl⟩
  go_wp2
  go_ret2
  exact ⟨rfl, HB.out⟩
theorem new_lastA (h : LogAt 61 B w q v g) (f : Fine g) (i : Int) (t : Nat) (vt : Int) (hi : node i = true) (hv : vt = -1) (hl : lastOk t g = false) : Calls Try.prog 7 #[.int .i64 i, .agg #[.int .u64 (t : Int), .int .i64 vt], .pointer (some ⟨q, 0, none⟩)] w (NoNode w) := by
  have c0 := (LogAt.below h (hbox t vt w)).c0
  have hlog := LogAt.below h (hbox t vt w)
  have hcb := heap_alloc_new w (.cells #[.int .u64 (t : Int), .int .i64 vt] 24)
  have hn := fun W => node_hid (Lib.hid hi) W
  have HN := Lib.hid hn
  have hlast := RlgWalkE.last_any hlog f
  obtain ⟨LI, hLI⟩ : ∃ LI, (last g).1 = LI := ⟨_, rfl⟩
  obtain ⟨LT, hLT⟩ : ∃ LT, (last g).2 = LT := ⟨_, rfl⟩
  rw [hLI, hLT] at hlast
  have hne : (vt != -1) = false := by rw [hv]; rfl
  clear hv
  have HB := Lib.hid (hbox t vt w)
  have hx : t < LT ∨ ¬ t < LT ∧ 9223372036854775808 < LI := by
    unfold lastOk at hl
    rw [hLI, hLT] at hl
    simp only [Bool.and_eq_false_iff, decide_eq_false_iff_not] at hl
    omega
  have HX := Lib.hid hx
  have HLast := Lib.hid hlast
  obtain ⟨w0, hw0⟩ : ∃ w0, w.alloc (.cells #[.int .u64 (t : Int), .int .i64 vt] 24) = w0 := ⟨_, rfl⟩
  rw [hw0] at HB HLast hcb
  have x0 : w0.cell? ⟨w.heap.size, 0, none⟩ = some (.int .u64 (t : Int)) := by rw [cell_at hcb]; rfl
  have x1 : w0.cell? ⟨w.heap.size, 1, none⟩ = some (.int .i64 vt) := by rw [cell_at hcb]; rfl
  have hlt := lt_at hcb
  have HW0 := Lib.hid hw0
  clear hn hlog hlast hLI hLT hx hw0 hcb c0 h f hl
  go_enter Try.func7, Try.ntmps7
  go_wp2_with fail
  rw [HW0.out]
  with_reducible refine (HN.out _).mono ?_
  rintro e w1 ⟨rfl, rfl⟩
  go_wp2_with fail
  with_reducible refine HLast.out.mono ?_
  rintro e w1 ⟨rfl, hb1⟩
  have y0 := (hb1.cell (p := ⟨w.heap.size, 0, none⟩) hlt).trans x0
  have HB1 := Lib.hid (HB.out.trans (hb1.mono HB.out.size))
  clear hb1
  rcases HX.out with hx | ⟨hx, hx2⟩
  · go_wp2
    go_ret2
    exact ⟨rfl, HB1.out⟩
  · have hx3 : decide ((9223372036854775808 : Int) < (LI : Int)) = true := by simp; omega
    go_wp2
    go_ret2
    exact ⟨rfl, HB1.out⟩
theorem new_lastB (h : LogAt 61 B w q v g) (f : Fine g) (i : Int) (t : Nat) (vt : Int) (hi : node i = true) (hv : vt ≠ -1 ∧ node vt = true) (hl : lastOk t g = false) : Calls Try.prog 7 #[.int .i64 i, .agg #[.int .u64 (t : Int), .int .i64 vt], .pointer (some ⟨q, 0, none⟩)] w (NoNode w) := by
  have c0 := (LogAt.below h (hbox t vt w)).c0
  have hlog := LogAt.below h (hbox t vt w)
  have hcb := heap_alloc_new w (.cells #[.int .u64 (t : Int), .int .i64 vt] 24)
  have hn := fun W => node_hid (Lib.hid hi) W
  have HN := Lib.hid hn
  have hlast := RlgWalkE.last_any hlog f
  obtain ⟨LI, hLI⟩ : ∃ LI, (last g).1 = LI := ⟨_, rfl⟩
  obtain ⟨LT, hLT⟩ : ∃ LT, (last g).2 = LT := ⟨_, rfl⟩
  rw [hLI, hLT] at hlast
  have hne : (vt != -1) = true := by simpa using hv.1
  have hm := fun W => node_hid (Lib.hid hv.2) W
  have HM := Lib.hid hm
  clear hm hv
  have HB := Lib.hid (hbox t vt w)
  have hx : t < LT ∨ ¬ t < LT ∧ 9223372036854775808 < LI := by
    unfold lastOk at hl
    rw [hLI, hLT] at hl
    simp only [Bool.and_eq_false_iff, decide_eq_false_iff_not] at hl
    omega
  have HX := Lib.hid hx
  have HLast := Lib.hid hlast
  obtain ⟨w0, hw0⟩ : ∃ w0, w.alloc (.cells #[.int .u64 (t : Int), .int .i64 vt] 24) = w0 := ⟨_, rfl⟩
  rw [hw0] at HB HLast hcb
  have x0 : w0.cell? ⟨w.heap.size, 0, none⟩ = some (.int .u64 (t : Int)) := by rw [cell_at hcb]; rfl
  have x1 : w0.cell? ⟨w.heap.size, 1, none⟩ = some (.int .i64 vt) := by rw [cell_at hcb]; rfl
  have hlt := lt_at hcb
  have HW0 := Lib.hid hw0
  clear hn hlog hlast hLI hLT hx hw0 hcb c0 h f hl
  go_enter Try.func7, Try.ntmps7
  go_wp2_with fail
  rw [HW0.out]
  with_reducible refine (HN.out _).mono ?_
  rintro e w1 ⟨rfl, rfl⟩
  go_wp2_with fail
  with_reducible refine (HM.out _).mono ?_
  rintro e w1 ⟨rfl, rfl⟩
  go_wp2_with fail
  with_reducible refine HLast.out.mono ?_
  rintro e w1 ⟨rfl, hb1⟩
  have y0 := (hb1.cell (p := ⟨w.heap.size, 0, none⟩) hlt).trans x0
  have HB1 := Lib.hid (HB.out.trans (hb1.mono HB.out.size))
  clear hb1
  rcases HX.out with hx | ⟨hx, hx2⟩
  · go_wp2
    go_ret2
    exact ⟨rfl, HB1.out⟩
  · have hx3 : decide ((9223372036854775808 : Int) < (LI : Int)) = true := by simp; omega
    go_wp2
    go_ret2
    exact ⟨rfl, HB1.out⟩
theorem node_new (h : LogAt 61 B w q v g) (I t : Nat) (vt : Int) {six : Nat} (hs : g.snap.idx = six) : PAt B (w.alloc (.cells #[.slice none 0 0, .slice none 0 0, .bool false, .bool false, .int .i64 (I : Int), .int .u64 (t : Int), .int .i64 vt, .pointer (some ⟨q, 0, none⟩), .int .i64 0, .int .i64 (-1), .int .u64 (six : Int), .int .u64 0, .int .u64 0, .int .u64 0, .int .u64 0, .int .u64 0, .int .u64 0, .int .u64 0, .int .u64 0, .int .u64 0, .int .u64 0, .int .u64 0, .int .u64 0, .int .u64 0, .int .u64 0, .int .u64 0] 68)) w.heap.size ⟨q, v, .slice none 0 0, .slice none 0 0, [], fun _ => False⟩ (newNd I t vt g) := by
  subst hs
  have hb : Below w.heap.size w (w.alloc (.cells #[.slice none 0 0, .slice none 0 0, .bool false, .bool false, .int .i64 (I : Int), .int .u64 (t : Int), .int .i64 vt, .pointer (some ⟨q, 0, none⟩), .int .i64 0, .int .i64 (-1), .int .u64 (g.snap.idx : Int), .int .u64 0, .int .u64 0, .int .u64 0, .int .u64 0, .int .u64 0, .int .u64 0, .int .u64 0, .int .u64 0, .int .u64 0, .int .u64 0, .int .u64 0, .int .u64 0, .int .u64 0, .int .u64 0, .int .u64 0] 68)) := (Below.refl _ _).alloc (Nat.le_refl _) _
  refine ⟨h.base, heap_alloc_new w _, h.below hb, World.ownsRow_nil _ _ _ _, World.ownsRow_nil _ _ _ _, rfl, by simp, fun k hk => hk.elim, fun e => ?_, by simp [Value.ownBlock], by simp [Value.ownBlock], fun k _ => by simp [Value.ownBlock], fun k _ => by simp [Value.ownBlock], fun k hk => by simp [Value.ownBlock] at hk⟩
  have := (h.foot_lt e).2
  omega
theorem field0 (w : World) (a b c : Int) (d : ByteArray) : (Instr.field 26 (.agg #[.int .u64 a, .int .u64 b, .int .u64 c, .string d]) 0).run Try.prog w = .ok (.int .u64 a) w := by kernel_rfl
/-- A new node, of a log. -/
def NewNode (B : Nat) (w : World) (q : Nat) (v : Value) (g : G) (i : Int) (t : Nat) (vt : Int) (e : Ending) (w' : World) : Prop :=
  ∃ p, e = .returned (.tuple #[.pointer (some ⟨p, 0, none⟩), .int .i64 0]) ∧ w.heap.size ≤ p ∧ PAt B w' p ⟨q, v, .slice none 0 0, .slice none 0 0, [], fun _ => False⟩ (newNd i.toNat t vt g) ∧ Below w.heap.size w w'
set_option maxRecDepth 100000 in
set_option maxHeartbeats 2000000 in
theorem new_okA (h : LogAt 61 B w q v g) (f : Fine g) (i : Int) (t : Nat) (vt : Int) (hi : node i = true) (hv : vt = -1) (hl : lastOk t g = true) : Calls Try.prog 7 #[.int .i64 i, .agg #[.int .u64 (t : Int), .int .i64 vt], .pointer (some ⟨q, 0, none⟩)] w (NewNode B w q v g i t vt) := by
  have c0 := (LogAt.below h (hbox t vt w)).c0
  have hlog := LogAt.below h (hbox t vt w)
  have hcb := heap_alloc_new w (.cells #[.int .u64 (t : Int), .int .i64 vt] 24)
  have hn := fun W => node_hid (Lib.hid hi) W
  have HN := Lib.hid hn
  have hlast := RlgWalkE.last_any hlog f
  have hfst := fun W (hb : Below w.heap.size w W) => RlgWalkE.first_any (LogAt.below h hb)
  obtain ⟨LI, hLI⟩ : ∃ LI, (last g).1 = LI := ⟨_, rfl⟩
  obtain ⟨LT, hLT⟩ : ∃ LT, (last g).2 = LT := ⟨_, rfl⟩
  rw [hLI, hLT] at hlast
  obtain ⟨I, rfl⟩ : ∃ I : Nat, i = (I : Int) := ⟨i.toNat, by have := node_lt hi; omega⟩
  obtain ⟨⟨six, stm, scf, sd⟩, hS⟩ : ∃ S, g.snap = S := ⟨_, rfl⟩
  unfold RlgWalkD.snapV at hfst
  simp only [hS] at hfst
  have hne : (vt != -1) = false := by rw [hv]; rfl
  clear hv
  have HB := Lib.hid (hbox t vt w)
  have hx : ¬ t < LT ∧ ¬ 9223372036854775808 < LI := by
    unfold lastOk at hl
    rw [hLI, hLT] at hl
    simp only [Bool.and_eq_true, decide_eq_true_eq] at hl
    omega
  obtain ⟨hx, hx2⟩ := hx
  have hx3 : decide ((9223372036854775808 : Int) < (LI : Int)) = false := by simp; omega
  have hf0 := fun W => field0 W (six : Int) (stm : Int) (scf : Int) sd
  have HLast := Lib.hid hlast
  have HFst := Lib.hid hfst
  have H := Lib.hid h
  have HS := Lib.hid hS
  obtain ⟨w0, hw0⟩ : ∃ w0, w.alloc (.cells #[.int .u64 (t : Int), .int .i64 vt] 24) = w0 := ⟨_, rfl⟩
  rw [hw0] at HB HLast hcb
  have x0 : w0.cell? ⟨w.heap.size, 0, none⟩ = some (.int .u64 (t : Int)) := by rw [cell_at hcb]; rfl
  have x1 : w0.cell? ⟨w.heap.size, 1, none⟩ = some (.int .i64 vt) := by rw [cell_at hcb]; rfl
  have hlt := lt_at hcb
  have HW0 := Lib.hid hw0
  clear hn hlog hlast hfst hLI hLT hw0 hcb c0 h f hl hS
  go_enter Try.func7, Try.ntmps7
  go_wp2_with fail
  rw [HW0.out]
  with_reducible refine (HN.out _).mono ?_
  rintro e w1 ⟨rfl, rfl⟩
  go_wp2_with fail
  with_reducible refine HLast.out.mono ?_
  rintro e w1 ⟨rfl, hb1⟩
  have y0 := (hb1.cell (p := ⟨w.heap.size, 0, none⟩) hlt).trans x0
  have y1 := (hb1.cell (p := ⟨w.heap.size, 1, none⟩) hlt).trans x1
  have HB1 := Lib.hid (HB.out.trans (hb1.mono HB.out.size))
  have hl1 : w.heap.size < w1.heap.size := Nat.lt_of_lt_of_le hlt hb1.size
  clear hb1
  go_wp2_with fail
  go_region_held3 (fun W => W.cell? ⟨w.heap.size, 0, none⟩ = some (.int .u64 (t : Int)) ∧ W.cell? ⟨w.heap.size, 1, none⟩ = some (.int .i64 vt))
    (first
      | exact ⟨y0, y1⟩
      | (with_reducible exact HKA.out)
      | (with_reducible exact HKB.out _))
    (first
      | (go_at_call 18
         with_reducible refine (HFst.out _ HB1.out.drew).mono ?_
         rintro e wA ⟨rfl, hBa⟩
         have HKA := Lib.hid (And.intro ((hBa.cell (p := ⟨w.heap.size, 0, none⟩) hl1).trans y0) ((hBa.cell (p := ⟨w.heap.size, 1, none⟩) hl1).trans y1))
         have HBA : Hid (Below w.heap.size w wA) := HB1.out.drew.trans (hBa.mono HB1.out.size)
         have HKB := Lib.hid (fun o => And.intro ((((Below.refl _ wA).alloc (Nat.le_refl _) o).cell (p := ⟨w.heap.size, 0, none⟩) (Nat.lt_of_lt_of_le hl1 hBa.size)).trans HKA.out.1) ((((Below.refl _ wA).alloc (Nat.le_refl _) o).cell (p := ⟨w.heap.size, 1, none⟩) (Nat.lt_of_lt_of_le hl1 hBa.size)).trans HKA.out.2))
         clear hBa))
  all_goals go_wp2
  all_goals go_ret2
  all_goals exact ⟨wA.heap.size, rfl, HBA.out.size, node_new (H.out.below HBA.out) I t vt (by rw [HS.out]), HBA.out.alloc HBA.out.size _⟩
set_option maxRecDepth 100000 in
set_option maxHeartbeats 2000000 in
theorem new_okB (h : LogAt 61 B w q v g) (f : Fine g) (i : Int) (t : Nat) (vt : Int) (hi : node i = true) (hv : vt ≠ -1 ∧ node vt = true) (hl : lastOk t g = true) : Calls Try.prog 7 #[.int .i64 i, .agg #[.int .u64 (t : Int), .int .i64 vt], .pointer (some ⟨q, 0, none⟩)] w (NewNode B w q v g i t vt) := by
  have c0 := (LogAt.below h (hbox t vt w)).c0
  have hlog := LogAt.below h (hbox t vt w)
  have hcb := heap_alloc_new w (.cells #[.int .u64 (t : Int), .int .i64 vt] 24)
  have hn := fun W => node_hid (Lib.hid hi) W
  have HN := Lib.hid hn
  have hlast := RlgWalkE.last_any hlog f
  have hfst := fun W (hb : Below w.heap.size w W) => RlgWalkE.first_any (LogAt.below h hb)
  obtain ⟨LI, hLI⟩ : ∃ LI, (last g).1 = LI := ⟨_, rfl⟩
  obtain ⟨LT, hLT⟩ : ∃ LT, (last g).2 = LT := ⟨_, rfl⟩
  rw [hLI, hLT] at hlast
  obtain ⟨I, rfl⟩ : ∃ I : Nat, i = (I : Int) := ⟨i.toNat, by have := node_lt hi; omega⟩
  obtain ⟨⟨six, stm, scf, sd⟩, hS⟩ : ∃ S, g.snap = S := ⟨_, rfl⟩
  unfold RlgWalkD.snapV at hfst
  simp only [hS] at hfst
  have hne : (vt != -1) = true := by simpa using hv.1
  have hm := fun W => node_hid (Lib.hid hv.2) W
  have HM := Lib.hid hm
  clear hm hv
  have HB := Lib.hid (hbox t vt w)
  have hx : ¬ t < LT ∧ ¬ 9223372036854775808 < LI := by
    unfold lastOk at hl
    rw [hLI, hLT] at hl
    simp only [Bool.and_eq_true, decide_eq_true_eq] at hl
    omega
  obtain ⟨hx, hx2⟩ := hx
  have hx3 : decide ((9223372036854775808 : Int) < (LI : Int)) = false := by simp; omega
  have hf0 := fun W => field0 W (six : Int) (stm : Int) (scf : Int) sd
  have HLast := Lib.hid hlast
  have HFst := Lib.hid hfst
  have H := Lib.hid h
  have HS := Lib.hid hS
  obtain ⟨w0, hw0⟩ : ∃ w0, w.alloc (.cells #[.int .u64 (t : Int), .int .i64 vt] 24) = w0 := ⟨_, rfl⟩
  rw [hw0] at HB HLast hcb
  have x0 : w0.cell? ⟨w.heap.size, 0, none⟩ = some (.int .u64 (t : Int)) := by rw [cell_at hcb]; rfl
  have x1 : w0.cell? ⟨w.heap.size, 1, none⟩ = some (.int .i64 vt) := by rw [cell_at hcb]; rfl
  have hlt := lt_at hcb
  have HW0 := Lib.hid hw0
  clear hn hlog hlast hfst hLI hLT hw0 hcb c0 h f hl hS
  go_enter Try.func7, Try.ntmps7
  go_wp2_with fail
  rw [HW0.out]
  with_reducible refine (HN.out _).mono ?_
  rintro e w1 ⟨rfl, rfl⟩
  go_wp2_with fail
  with_reducible refine (HM.out _).mono ?_
  rintro e w1 ⟨rfl, rfl⟩
  go_wp2_with fail
  with_reducible refine HLast.out.mono ?_
  rintro e w1 ⟨rfl, hb1⟩
  have y0 := (hb1.cell (p := ⟨w.heap.size, 0, none⟩) hlt).trans x0
  have y1 := (hb1.cell (p := ⟨w.heap.size, 1, none⟩) hlt).trans x1
  have HB1 := Lib.hid (HB.out.trans (hb1.mono HB.out.size))
  have hl1 : w.heap.size < w1.heap.size := Nat.lt_of_lt_of_le hlt hb1.size
  clear hb1
  go_wp2_with fail
  go_region_held3 (fun W => W.cell? ⟨w.heap.size, 0, none⟩ = some (.int .u64 (t : Int)) ∧ W.cell? ⟨w.heap.size, 1, none⟩ = some (.int .i64 vt))
    (first
      | exact ⟨y0, y1⟩
      | (with_reducible exact HKA.out)
      | (with_reducible exact HKB.out _))
    (first
      | (go_at_call 18
         with_reducible refine (HFst.out _ HB1.out.drew).mono ?_
         rintro e wA ⟨rfl, hBa⟩
         have HKA := Lib.hid (And.intro ((hBa.cell (p := ⟨w.heap.size, 0, none⟩) hl1).trans y0) ((hBa.cell (p := ⟨w.heap.size, 1, none⟩) hl1).trans y1))
         have HBA : Hid (Below w.heap.size w wA) := HB1.out.drew.trans (hBa.mono HB1.out.size)
         have HKB := Lib.hid (fun o => And.intro ((((Below.refl _ wA).alloc (Nat.le_refl _) o).cell (p := ⟨w.heap.size, 0, none⟩) (Nat.lt_of_lt_of_le hl1 hBa.size)).trans HKA.out.1) ((((Below.refl _ wA).alloc (Nat.le_refl _) o).cell (p := ⟨w.heap.size, 1, none⟩) (Nat.lt_of_lt_of_le hl1 hBa.size)).trans HKA.out.2))
         clear hBa))
  all_goals go_wp2
  all_goals go_ret2
  all_goals exact ⟨wA.heap.size, rfl, HBA.out.size, node_new (H.out.below HBA.out) I t vt (by rw [HS.out]), HBA.out.alloc HBA.out.size _⟩
theorem new_any (h : LogAt 61 B w q v g) (f : Fine g) (i : Int) (t : Nat) (vt : Int) : Calls Try.prog 7 #[.int .i64 i, .agg #[.int .u64 (t : Int), .int .i64 vt], .pointer (some ⟨q, 0, none⟩)] w fun e w' =>
    if (node i && (voteOk vt && lastOk t g)) = true then NewNode B w q v g i t vt e w' else NoNode w e w' := by
  cases hi : node i with
  | false => simpa using new_id i t vt _ hi w
  | true =>
    cases hv : voteOk vt with
    | false => simpa using new_vote i t vt hi hv w
    | true =>
      have hv2 : vt = -1 ∨ (vt ≠ -1 ∧ node vt = true) := by
        unfold voteOk at hv
        simp only [Bool.or_eq_true, decide_eq_true_eq] at hv
        by_cases e : vt = -1
        · exact .inl e
        · exact .inr ⟨e, hv.resolve_left e⟩
      cases hl : lastOk t g with
      | false =>
        rcases hv2 with e | e
        · simpa using new_lastA h f i t vt hi e hl
        · simpa using new_lastB h f i t vt hi e hl
      | true =>
        rcases hv2 with e | e
        · simpa using new_okA h f i t vt hi e hl
        · simpa using new_okB h f i t vt hi e hl
end
end Go.Proofs.Ytdbmpfongfiagaa.WalkJ
