/- What the program's add and lead leave, walked. -/
import Derived.Test.YtokifeghoodkgaaWalkF
set_option linter.unusedVariables false
namespace Go.Proofs.Ytokifeghoodkgaa.WalkG
open Go.RowKit Go.Proofs.Ytokifeghoodkgaa.Kit Go.Proofs.Ytokifeghoodkgaa.Blocks Go.Proofs.Ytokifeghoodkgaa.Rlog Go.Proofs.Ytokifeghoodkgaa.Ents Go.Proofs.Ytokifeghoodkgaa.LogAt Go.Proofs.Ytokifeghoodkgaa.Nod Go.Proofs.Ytokifeghoodkgaa.NodAt Go.Proofs.Ytokifeghoodkgaa.AppL Go.Proofs.Ytokifeghoodkgaa.WalkA Go.Proofs.Ytokifeghoodkgaa.WalkB Go.Proofs.Ytokifeghoodkgaa.WalkC Go.Proofs.Ytokifeghoodkgaa.WalkD Go.Proofs.Ytokifeghoodkgaa.WalkE Go.Proofs.Ytokifeghoodkgaa.WalkF
open Go.Proofs.Ytokifeghoodkgaa.Told (unums)
open Go.Proofs.Ytokifeghoodkgaa.Quorum (mem size need sound maj node has turn change)
open Go.Proofs.Ytokifeghoodkgaa.RlgWalkB (entV)

theorem logd_b {N : Nat} {m : Nd} (h : NdB N m) (kind : Int) (d : ByteArray) (k0 : -9223372036854775808 ≤ kind) (k1 : kind ≤ 9223372036854775807) (hd : d.size ≤ 9223372036854775807) (hc : canAdd m kind d = true) : NdB (N + 1) { m with g := (added m kind d).g } := by
  obtain ⟨f1, f2⟩ := added_fine h kind d k0 k1 hd hc
  have ht := h.top
  exact { h.mono (Nat.le_succ N) with
    fine := f1
    es := by have := h.es; simp only [added, List.length_append, List.length_singleton]; omega
    top := by show (last (added m kind d).g).1 ≤ _; rw [f2]; omega }
/-- An entry in a box. -/
structure EBox (W : World) (r : Nat) (e : Ent) : Prop where
  blk : W.heap[r]? = some (.cells #[.int .u64 (e.term : Int), .int .u64 (e.idx : Int), .int .i64 e.kind, .string e.data] 76 (0, 0))
theorem EBox.set {W : World} {r : Nat} {a b c d : Value} (h : W.heap[r]? = some (.cells #[a, b, c, d] 76 (0, 0))) (e : Ent) :
    EBox ((((W.setCell ⟨r, 0, none⟩ (.int .u64 (e.term : Int))).setCell ⟨r, 1, none⟩ (.int .u64 (e.idx : Int))).setCell ⟨r, 2, none⟩ (.int .i64 e.kind)).setCell ⟨r, 3, none⟩ (.string e.data)) r e ∧
      Only (fun q => q = r) W ((((W.setCell ⟨r, 0, none⟩ (.int .u64 (e.term : Int))).setCell ⟨r, 1, none⟩ (.int .u64 (e.idx : Int))).setCell ⟨r, 2, none⟩ (.int .i64 e.kind)).setCell ⟨r, 3, none⟩ (.string e.data)) := by
  refine ⟨⟨?_⟩, ((((Only.refl (fun q => q = r) W).setCell (a := ⟨r, 0, none⟩) (.inr rfl) _).setCell (a := ⟨r, 1, none⟩) (.inr rfl) _).setCell (a := ⟨r, 2, none⟩) (.inr rfl) _).setCell (a := ⟨r, 3, none⟩) (.inr rfl) _⟩
  rw [set_at (set_at (set_at (set_at h _) _) _) _]
  rfl
section
variable {B p N : Nat} {z : Seat} {m : Nd} {w : World}
theorem Grow.out {z' : Seat} {w' : World} {r : Nat} (h : Grow p z z' w w') (hm : ¬ Mine p z r) (hr : r < w.heap.size) : ¬ Mine p z' r := fun e => by
  rcases h.new r e with h1 | h1
  · exact hm h1
  · omega
/-- Behind the first region of add. -/
def Mid (B : Nat) (w : World) (p : Nat) (z : Seat) (m1 : Nd) (x : Ent) (k : Int) (a b : Value) (wx : World) : Prop :=
  ∃ r z', a = .pointer (some ⟨r, 0, none⟩) ∧ b = .int .i64 k ∧ EBox wx r x ∧ PAt B wx p z' m1 ∧ Grow p z z' w wx ∧ w.heap.size ≤ r ∧ ¬ Mine p z' r
theorem mid_late {m1 : Nd} {x : Ent} {k : Int} {wA : World} {z' : Seat} (h : PAt B wA p z' m1) (hg : Grow p z z' w wA) :
    Mid B w p z m1 x k (.pointer (some ⟨wA.heap.size, 0, none⟩)) (.int .i64 k) (wA.alloc (.cells #[.int .u64 (x.term : Int), .int .u64 (x.idx : Int), .int .i64 x.kind, .string x.data] 76)) :=
  ⟨wA.heap.size, z', rfl, rfl, ⟨heap_alloc_new wA _⟩, h.below ((Below.refl _ _).alloc (Nat.le_refl _) _), hg.thenBelow ((Below.refl _ _).alloc (Nat.le_refl _) _), hg.size, fun hm => by have := (NodeAt.mine_lt h hm).2; omega⟩
theorem log_add (h : PAt B w p z m) (f : NdB N m) (hN : N ≤ 1000000000) (kind : Int) (d : ByteArray) (k0 : -9223372036854775808 ≤ kind) (k1 : kind ≤ 9223372036854775807) (hd : d.size ≤ 9223372036854775807) {x : Ent} {k : Int} {g : G} (hr : Rlog.add m.g m.term kind d = ((x, k), g)) :
    Calls Try.prog 42 #[.pointer (some ⟨z.q, 0, none⟩), .int .u64 (m.term : Int), .int .i64 kind, .string d] w fun e w' =>
      e = .returned (.tuple #[.agg #[.int .u64 (x.term : Int), .int .u64 (x.idx : Int), .int .i64 x.kind, .string x.data], .int .i64 k]) ∧ ∃ v', PAt B w' p { z with vg := v' } { m with g := g } ∧ Grow p z { z with vg := v' } w w' := by
  have hes := f.es
  have := RlgWalkH.add_any h.log f.fine m.term kind d f.term k0 k1 hd (by omega)
  rw [hr] at this
  refine this.mono ?_
  rintro e w' ⟨rfl, hl⟩
  obtain ⟨v', h', g'⟩ := NodeAt.logged h hl
  exact ⟨rfl, v', h', g'⟩
set_option maxHeartbeats 4000000 in
theorem add_any (h : PAt B w p z m) (f : NdB N m) (hr : m.role = 2) (hN : N ≤ 800000000) (kind : Int) (d : ByteArray) (k0 : -9223372036854775808 ≤ kind) (k1 : kind ≤ 9223372036854775807) (hd : d.size ≤ 9223372036854775807) :
    Calls Try.prog 26 #[.pointer (some ⟨p, 0, none⟩), .int .i64 kind, .string d] w fun e w' => e = .returned (.tuple #[.int .u64 ((add m kind d).1.1 : Int), .int .i64 (add m kind d).1.2]) ∧ LeftP B w p z (add m kind d).2 w' := by
  have c5 := h.c5
  have c7 := h.c7
  have hplt := h.plt
  obtain ⟨⟨⟨x, k⟩, g⟩, hR⟩ : ∃ R, Rlog.add m.g m.term kind d = R := ⟨_, rfl⟩
  have hA0 : Below w.heap.size w (w.alloc (.cells #[.int .u64 0, .int .u64 0, .int .i64 0, .string ⟨#[]⟩] 76)).drew := ((Below.refl _ w).alloc (Nat.le_refl _) _).drew
  have hnew := heap_alloc_new w (.cells #[.int .u64 0, .int .u64 0, .int .i64 0, .string ⟨#[]⟩] 76)
  have hl1 := log_add h.drew f (by omega) kind d k0 k1 hd hR
  have hl2 := log_add (h.below hA0) f (by omega) kind d k0 k1 hd hR
  obtain ⟨m1, hm1⟩ : ∃ m1 : Nd, { m with g := g } = m1 := ⟨_, rfl⟩
  have hMt : m1.term = m.term := by rw [← hm1]
  have HA1 : Hid (Calls Try.prog 42 #[.pointer (some ⟨z.q, 0, none⟩), .int .u64 (m.term : Int), .int .i64 kind, .string d] w.drew fun e w' =>
      e = .returned (.tuple #[.agg #[.int .u64 (x.term : Int), .int .u64 (x.idx : Int), .int .i64 x.kind, .string x.data], .int .i64 k]) ∧ ∃ z', PAt B w' p z' m1 ∧ Grow p z z' w w') :=
    hl1.mono fun e w' ⟨e1, v', e2, e3⟩ => ⟨e1, { z with vg := v' }, hm1 ▸ e2, Grow.afterBelow ((Below.refl _ w).drew) e3⟩
  have HA2 : Hid (Calls Try.prog 42 #[.pointer (some ⟨z.q, 0, none⟩), .int .u64 (m.term : Int), .int .i64 kind, .string d] (w.alloc (.cells #[.int .u64 0, .int .u64 0, .int .i64 0, .string ⟨#[]⟩] 76)).drew fun e w' =>
      e = .returned (.tuple #[.agg #[.int .u64 (x.term : Int), .int .u64 (x.idx : Int), .int .i64 x.kind, .string x.data], .int .i64 k]) ∧ ∃ z', PAt B w' p z' m1 ∧ Grow p z z' w w' ∧ w'.heap[w.heap.size]? = some (.cells #[.int .u64 0, .int .u64 0, .int .i64 0, .string ⟨#[]⟩] 76 (0, 0)) ∧ ¬ Mine p z' w.heap.size ∧ ∀ y ∈ z'.Z, Off (fun q => q = w.heap.size) y.2.A y.2.n) := by
    refine hl2.mono fun e w' ⟨e1, v', e2, e3⟩ => ⟨e1, { z with vg := v' }, hm1 ▸ e2, Grow.afterBelow hA0 e3, ?_, ?_, ?_⟩
    · exact e3.block (k := w.heap.size) hnew fun hm => by have := (NodeAt.mine_lt h hm).2; omega
    · intro hm
      rcases e3.new _ hm with h1 | h1
      · have := (NodeAt.mine_lt h h1).2; omega
      · have : (w.alloc (.cells #[.int .u64 0, .int .u64 0, .int .i64 0, .string ⟨#[]⟩] 76)).drew.heap.size = w.heap.size + 1 := by simp
        omega
    · intro y hy hn ad ha hq
      obtain ⟨ad', ha', hb, _⟩ := (h.fit y hy).re.2 hn
      rw [ha] at ha'
      cases ha'
      omega
  have HK : Hid (∀ W z', PAt B W p z' m1 → z'.q = z.q → W.cell? ⟨p, 7, none⟩ = some (.pointer (some ⟨z.q, 0, none⟩)) ∧ W.cell? ⟨p, 5, none⟩ = some (.int .u64 (m.term : Int))) := fun W z' hp hq => ⟨by rw [← hq]; exact PAt.c7 hp, by rw [← hMt]; exact PAt.c5 hp⟩
  have HK0 : Hid (∀ W, Below w.heap.size w W → W.cell? ⟨p, 7, none⟩ = some (.pointer (some ⟨z.q, 0, none⟩)) ∧ W.cell? ⟨p, 5, none⟩ = some (.int .u64 (m.term : Int))) := fun W hb => ⟨(h.below hb).c7, (h.below hb).c5⟩
  have HW0 : Hid (Below w.heap.size w w.drew) := (Below.refl _ w).drew
  have HA0 : Hid (Below w.heap.size w (w.alloc (.cells #[.int .u64 0, .int .u64 0, .int .i64 0, .string ⟨#[]⟩] 76))) := (Below.refl _ w).alloc (Nat.le_refl _) _
  obtain ⟨T, hT⟩ : ∃ T, m.term = T := ⟨_, rfl⟩
  rw [hT] at c5 HA1 HA2 HK HK0
  have H := Lib.hid h
  have F := Lib.hid f
  have HR := Lib.hid hR
  have HM1 := Lib.hid hm1
  have HRole := Lib.hid hr
  obtain ⟨⟨⟨J, E⟩, M⟩, hM⟩ : ∃ R, Nod.add m kind d = R := ⟨_, rfl⟩
  rw [hM]
  simp only
  have HM := Lib.hid hM
  clear hA0 hnew hl1 hl2 hm1 hMt hT h f hR hr hM
  go_enter Try.func26, Try.ntmps26
  go_wp2_with fail
  go_upto_region 1 with fail
  go_cut [8, 9] from 8 to 25 (fun a b wx => Mid B w p z m1 x k a b wx)
  case first =>
    go_wp2_with fail
    go_region_held3 (fun W => W.cell? ⟨p, 7, none⟩ = some (.pointer (some ⟨z.q, 0, none⟩)) ∧ W.cell? ⟨p, 5, none⟩ = some (.int .u64 (T : Int)))
      (first
        | (with_reducible exact HK0.out _ HW0.out)
        | (with_reducible exact HK0.out _ HA0.out.drew)
        | (with_reducible exact HK0.out _ HA0.out)
        | (with_reducible exact HKA.out)
        | (with_reducible exact HKB.out _)
        | (with_reducible exact HKS.out))
      (first
        | (go_at_call 42
           with_reducible refine HA1.out.mono ?_
           rintro e wA ⟨rfl, z1, h1, g1⟩
           have HKA := Lib.hid (HK.out _ _ h1 g1.q)
           have HKB := Lib.hid (fun o => HK.out _ _ (h1.below ((Below.refl _ wA).alloc (Nat.le_refl _) o)) g1.q)
           have HMid := Lib.hid (mid_late (x := x) (k := k) h1 g1)
           clear h1 g1)
        | (go_at_call 42
           with_reducible refine HA2.out.mono ?_
           rintro e wA ⟨rfl, z1, h1, g1, hbx, hnm, hoff⟩
           have HKA := Lib.hid (HK.out _ _ h1 g1.q)
           have x0 : wA.cell? ⟨w.heap.size, 0, none⟩ = some (.int .u64 0) := cell_at hbx 0
           have x1 : wA.cell? ⟨w.heap.size, 1, none⟩ = some (.int .u64 0) := cell_at hbx 1
           have x2 : wA.cell? ⟨w.heap.size, 2, none⟩ = some (.int .i64 0) := cell_at hbx 2
           have x3 : wA.cell? ⟨w.heap.size, 3, none⟩ = some (.string ⟨#[]⟩) := cell_at hbx 3
           have y0 := free_at hbx 0
           have y1 := free_at hbx 1
           have y2 := free_at hbx 2
           have y3 := free_at hbx 3
           obtain ⟨s1, s2⟩ := EBox.set hbx x
           have h2 : PAt B _ p z1 m1 := NodeAt.keep h1 s2 (fun b hb e => hnm (e ▸ hb)) hoff
           have HKS := Lib.hid (HK.out _ _ h2 g1.q)
           have HMid : Hid (Mid B w p z m1 x k (.pointer (some ⟨w.heap.size, 0, none⟩)) (.int .i64 k) _) := Lib.hid ⟨w.heap.size, z1, rfl, rfl, s1, h2, g1.boxed (Nat.le_refl _) s2, Nat.le_refl _, hnm⟩
           clear hbx hnm hoff h1 h2 g1 s1 s2))
    all_goals go_wp2_with fail
    all_goals go_meet
    all_goals (with_reducible exact HMid.out)
  case rest =>
    obtain ⟨r, z1, rfl, rfl, hbx, h1, g1, hr, hnm⟩ := hcut
    have hrl := lt_at hbx.blk
    cases hc : canAdd m kind d with
    | false =>
      have hcc : addOk m.g m.term kind d = false := hc
      have e1 : ((x, k), g) = ((noEnt, 1), m.g) := by rw [← HR.out]; unfold Rlog.add; rw [hcc, if_neg (by simp)]
      have e2 : ((J, E), M) = ((0, 1), m) := by rw [← HM.out]; unfold Nod.add; rw [hc, if_neg (by simp)]
      cases e1
      have hJ : J = 0 ∧ E = 1 ∧ M = m := by cases e2; exact ⟨rfl, rfl, rfl⟩
      have HJ := Lib.hid hJ
      have h1' : PAt B wc p z1 m := by have := h1; rw [← HM1.out] at this; exact this
      have HE := Lib.hid (show LeftP B w p z m wc from ⟨z1, h1', g1⟩)
      clear h1 h1' g1 hbx hnm hc hcc e2 hJ
      go_wp2
      go_ret2
      obtain ⟨j1, j2, j3⟩ := HJ.out
      rw [j1, j2, j3]
      exact ⟨rfl, HE.out⟩
    | true =>
      have hcc : addOk m.g m.term kind d = true := hc
      have e1 : ((x, k), g) = ((ent m kind d, 0), { m.g with es := m.g.es ++ [ent m kind d] }) := by rw [← HR.out]; unfold Rlog.add; rw [if_pos hcc]; rfl
      have e2 : ((J, E), M) = (((ent m kind d).idx, 0), advance (beat (added m kind d))) := by rw [← HM.out]; unfold Nod.add; rw [if_pos hc]
      have F1 := logd_b F.out kind d k0 k1 hd hc
      have F2 := added_b F.out HRole.out (by omega) kind d k0 k1 hd hc
      have hId := F.out.id
      have e3 : m1 = { m with g := (added m kind d).g } := by rw [← HM1.out]; cases e1; rfl
      have e4 : added m kind d = { keep m1 [ent m kind d] with mat := m1.mat.set m1.id (ent m kind d).idx } := by rw [e3]; rfl
      have e5 : m1.id = m.id := by rw [e3]
      have e6 : x = ent m kind d ∧ k = 0 := by cases e1; exact ⟨rfl, rfl⟩
      rw [← e3] at F1
      rw [← e6.1] at e4 e2
      obtain ⟨M2, hM2⟩ : ∃ M2, added m kind d = M2 := ⟨_, rfl⟩
      rw [hM2] at e4 F2 e2
      have hJ : J = x.idx ∧ E = 0 ∧ M = advance (beat M2) := by cases e2; exact ⟨rfl, rfl, rfl⟩
      have HJ := Lib.hid hJ
      obtain ⟨e6, rfl⟩ := e6
      have HE4 := Lib.hid e4
      have HF1 := Lib.hid F1
      have HF2 := Lib.hid F2
      have H1 := Lib.hid h1
      have G1 := Lib.hid g1
      have HNm := Lib.hid hnm
      have HBx := Lib.hid hbx
      have HE5 := Lib.hid e5
      have b0 : wc.cell? ⟨r, 0, none⟩ = some (.int .u64 (x.term : Int)) := by rw [cell_at hbx.blk]; rfl
      have b1 : wc.cell? ⟨r, 1, none⟩ = some (.int .u64 (x.idx : Int)) := by rw [cell_at hbx.blk]; rfl
      have b2 : wc.cell? ⟨r, 2, none⟩ = some (.int .i64 x.kind) := by rw [cell_at hbx.blk]; rfl
      have b3 : wc.cell? ⟨r, 3, none⟩ = some (.string x.data) := by rw [cell_at hbx.blk]; rfl
      have hal : ∀ o, Below wc.heap.size wc (wc.alloc o).drew := fun o => ((Below.refl _ wc).alloc (Nat.le_refl _) o).drew
      have hkeep : Calls Try.prog 43 #[.pointer (some ⟨p, 0, none⟩), .slice (some ⟨wc.heap.size, 0, none⟩) 1 1] (wc.alloc (.cells #[.int .u64 (x.term : Int), .int .u64 (x.idx : Int), .int .i64 x.kind, .string x.data] 76)).drew (Does B (wc.alloc (.cells #[.int .u64 (x.term : Int), .int .u64 (x.idx : Int), .int .i64 x.kind, .string x.data] 76)).drew p z1 (keep m1 [x])) :=
        keep_some (h1.below (hal _)) F1 (by omega) _ 1 1 [x] ((Reads.drew (RlgWalkH.ent_new wc x 76)).more (by simp)) (by decide) (by decide)
      have HKp := Lib.hid hkeep
      have HAl := Lib.hid hal
      have HS0 : Hid (∀ W : World, W.heap[r]? = wc.heap[r]? → W.cell? ⟨r, 0, none⟩ = some (.int .u64 (x.term : Int)) ∧ W.cell? ⟨r, 1, none⟩ = some (.int .u64 (x.idx : Int)) ∧ W.cell? ⟨r, 2, none⟩ = some (.int .i64 x.kind) ∧ W.cell? ⟨r, 3, none⟩ = some (.string x.data)) := fun W hW => ⟨(World.cell?_of_block hW).trans b0, (World.cell?_of_block hW).trans b1, (World.cell?_of_block hW).trans b2, (World.cell?_of_block hW).trans b3⟩
      have HKP : Hid (p < wc.heap.size) := NodeAt.plt h1
      clear e1 e2 e3 e4 F1 F2 hM2 h1 g1 hnm hbx hc hcc e5 hkeep hal hJ e6
      go_wp2_with fail
      go_region_held3 (fun W => W.cell? ⟨r, 0, none⟩ = some (.int .u64 (x.term : Int)) ∧ W.cell? ⟨r, 1, none⟩ = some (.int .u64 (x.idx : Int)) ∧ W.cell? ⟨r, 2, none⟩ = some (.int .i64 x.kind) ∧ W.cell? ⟨r, 3, none⟩ = some (.string x.data))
        (first
          | exact ⟨b0, b1, b2, b3⟩
          | (with_reducible exact HS0.out _ ((HAl.out _).block r hrl))
          | (with_reducible exact HSK.out))
        (first
          | (go_at_call 43
             with_reducible refine HKp.out.mono ?_
             rintro e wK ⟨rfl, z2, h2, g2⟩
             have hbk : wK.heap[r]? = wc.heap[r]? := (g2.only.block r (Nat.lt_of_lt_of_le hrl (HAl.out _).size) HNm.out).trans ((HAl.out _).block r hrl)
             have HSK := Lib.hid (HS0.out _ hbk)
             have HBK := Lib.hid hbk
             have HN2 : Hid (¬ Mine p z2 r) := Grow.out (Grow.afterBelow (HAl.out _) g2) HNm.out hrl
             have H2 := Lib.hid h2
             have G2 := Lib.hid (G1.out.trans (Grow.afterBelow (HAl.out _) g2))
             clear h2 g2 hbk))
      have h2 := H2.out
      have q4 := PAt.c4 h2
      have fm := fun i => NodeAt.free h2 i
      have qm := PAt.mt h2 HF1.out.nl HF1.out.ml (k := m.id) hId
      have hkp := NodeAt.plt h2
      obtain ⟨h3, g3⟩ := PAt.setMt h2 HF1.out.nl hId x.idx
      have h3' : PAt B (wK.setCell ⟨p, 19 + m.id, none⟩ (.int .u64 (x.idx : Int))) p z2 M2 := by
        have := h3
        rw [HE4.out, HE5.out]
        exact this
      rw [show (keep m1 [x]).id = m.id from HE5.out] at q4
      have q1 : wK.cell? ⟨r, 1, none⟩ = some (.int .u64 (x.idx : Int)) := HSK.out.2.1
      have hbk3 : (wK.setCell ⟨p, 19 + m.id, none⟩ (.int .u64 (x.idx : Int))).heap[r]? = wc.heap[r]? := by
        rw [Below.heap_setCell _ _ _ _ (show r ≠ p from fun e => HNm.out (.inl e))]
        exact HBK.out
      have hidI : (m.id : Int) < 7 := by omega
      have hidJ : (0 : Int) ≤ (m.id : Int) := by omega
      have f19 := fm (19 + m.id)
      have H3 := Lib.hid h3'
      have G3 := Lib.hid (G2.out.trans g3)
      have HBK3 := Lib.hid hbk3
      have HN3 := HN2
      obtain ⟨I, hI⟩ : ∃ I, m.id = I := ⟨_, rfl⟩
      rw [hI] at q4 qm hidI hidJ f19 H3 G3 HBK3
      clear h2 h3 h3' g3 hbk3 fm hId HE5 hI
      go_wp2_with fail
      go_region
      generalize (wK.setCell ⟨p, 19 + I, none⟩ (.int .u64 (x.idx : Int))) = w3 at H3 G3 HBK3 ⊢
      have HBD : Hid (Below w3.heap.size w3 w3.drew) := (Below.refl _ w3).drew
      go_wp2_with fail
      with_reducible refine (beat_any (PAt.below H3.out HBD.out) HF2.out (by omega)).mono ?_
      rintro e w4 ⟨rfl, z4, h4, g4⟩
      have hr3 : r < w3.heap.size := lt_at (HBK3.out.trans HBx.out.blk)
      have hb4 : w4.heap[r]? = wc.heap[r]? := (g4.only.block r hr3 HN3.out).trans HBK3.out
      have hn4 := Grow.out g4 HN3.out hr3
      have hr4 : r < w4.heap.size := Nat.lt_of_lt_of_le hr3 g4.size
      have H4 := Lib.hid h4
      have G4 := Lib.hid (G3.out.trans (Grow.afterBelow HBD.out g4))
      clear h4 g4
      go_wp2_with fail
      with_reducible refine (advance_any H4.out (beat_b HF2.out) (by omega)).mono ?_
      rintro e w5 ⟨rfl, z5, h5, g5⟩
      have hb5 : w5.heap[r]? = wc.heap[r]? := (g5.only.block r hr4 hn4).trans hb4
      have q5 := (HS0.out w5 hb5).2.1
      have H5 := Lib.hid h5
      have G5 := Lib.hid (G4.out.trans g5)
      clear h5 g5
      go_wp2
      go_ret2
      obtain ⟨j1, j2, j3⟩ := HJ.out
      rw [j1, j2, j3]
      exact ⟨rfl, z5, H5.out, G5.out⟩
end
end Go.Proofs.Ytokifeghoodkgaa.WalkG
