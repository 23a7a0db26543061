/- RlogMerges, walked. -/
import Derived.Test.YtndehdnffajigaaLawD
set_option linter.unusedVariables false
namespace Go.Proofs.Ytndehdnffajigaa.LawE
open Go.Proofs.Ytndehdnffajigaa.Begun (left_below)
open Go.RowKit Go.Proofs.Ytndehdnffajigaa.Kit Go.Proofs.Ytndehdnffajigaa.Blocks Go.Proofs.Ytndehdnffajigaa.Rlog Go.Proofs.Ytndehdnffajigaa.Ents Go.Proofs.Ytndehdnffajigaa.LogAt Go.Proofs.Ytndehdnffajigaa.WalkB Go.Proofs.Ytndehdnffajigaa.WalkC Go.Proofs.Ytndehdnffajigaa.WalkD Go.Proofs.Ytndehdnffajigaa.WalkE Go.Proofs.Ytndehdnffajigaa.WalkF Go.Proofs.Ytndehdnffajigaa.WalkH Go.Proofs.Ytndehdnffajigaa.WalkI Go.Proofs.Ytndehdnffajigaa.WalkJ Go.Proofs.Ytndehdnffajigaa.WalkK Go.Proofs.Ytndehdnffajigaa.Cals Go.Proofs.Ytndehdnffajigaa.Made Go.Proofs.Ytndehdnffajigaa.Light Go.Proofs.Ytndehdnffajigaa.Opens Go.Proofs.Ytndehdnffajigaa.Alike Go.Proofs.Ytndehdnffajigaa.RefB Go.Proofs.Ytndehdnffajigaa.RefD Go.Proofs.Ytndehdnffajigaa.Both Go.Proofs.Ytndehdnffajigaa.Merged Go.Proofs.Ytndehdnffajigaa.LawB Go.Proofs.Ytndehdnffajigaa.LawD

/-- Two boxes, laid one behind the other. -/
theorem boxes_at (w : World) (s : Snap) (x : Cal) : Box4 ((w.alloc (.cells #[.int .u64 (s.idx : Int), .int .u64 (s.term : Int), .int .u64 (s.cfg : Int), .string s.data] 24)).alloc (callO x)) w.heap.size (.int .u64 (s.idx : Int)) (.int .u64 (s.term : Int)) (.int .u64 (s.cfg : Int)) (.string s.data) 24 ∧
    ((w.alloc (.cells #[.int .u64 (s.idx : Int), .int .u64 (s.term : Int), .int .u64 (s.cfg : Int), .string s.data] 24)).alloc (callO x)).heap[w.heap.size + 1]? = some (.cells (callCs x).toArray 37 (0, 0)) := by
  have h1 := Box4.new w (.int .u64 (s.idx : Int)) (.int .u64 (s.term : Int)) (.int .u64 (s.cfg : Int)) (.string s.data) 24
  have h2 := heap_alloc_new (w.alloc (.cells #[.int .u64 (s.idx : Int), .int .u64 (s.term : Int), .int .u64 (s.cfg : Int), .string s.data] 24)) (callO x)
  refine ⟨h1.below ((Below.refl _ _).alloc (Nat.le_refl _) _), ?_⟩
  rw [show (w.alloc (.cells #[.int .u64 (s.idx : Int), .int .u64 (s.term : Int), .int .u64 (s.cfg : Int), .string s.data] 24)).heap.size = w.heap.size + 1 by simp] at h2
  exact h2
/-- What is read of the boxes. -/
structure Boxed (w W : World) (s : Snap) (x : Cal) : Prop where
  s0 : W.cell? ⟨w.heap.size, 0, none⟩ = some (.int .u64 (s.idx : Int))
  s1 : W.cell? ⟨w.heap.size, 1, none⟩ = some (.int .u64 (s.term : Int))
  s2 : W.cell? ⟨w.heap.size, 2, none⟩ = some (.int .u64 (s.cfg : Int))
  s3 : W.cell? ⟨w.heap.size, 3, none⟩ = some (.string s.data)
  slt : w.heap.size < W.heap.size
  x0 : W.cell? ⟨w.heap.size + 1, 0, none⟩ = some (.int .i64 x.kind)
  x1 : W.cell? ⟨w.heap.size + 1, 1, none⟩ = some (.int .u64 (x.idx : Int))
  x2 : W.cell? ⟨w.heap.size + 1, 2, none⟩ = some (.int .u64 (x.term : Int))
  x3 : W.cell? ⟨w.heap.size + 1, 3, none⟩ = some (.int .i64 x.what)
  x4 : W.cell? ⟨w.heap.size + 1, 4, none⟩ = some (.string x.data)
  x5 : W.cell? ⟨w.heap.size + 1, 5, none⟩ = some (.slice x.A x.n x.c)
  x6 : W.cell? ⟨w.heap.size + 1, 6, none⟩ = some (.int .u64 (x.snap.idx : Int))
  x7 : W.cell? ⟨w.heap.size + 1, 7, none⟩ = some (.int .u64 (x.snap.term : Int))
  x8 : W.cell? ⟨w.heap.size + 1, 8, none⟩ = some (.int .u64 (x.snap.cfg : Int))
  x9 : W.cell? ⟨w.heap.size + 1, 9, none⟩ = some (.string x.snap.data)
  xlt : w.heap.size + 1 < W.heap.size
theorem boxed_of {w w0 W : World} {s : Snap} {x : Cal} (h1 : Box4 w0 w.heap.size (.int .u64 (s.idx : Int)) (.int .u64 (s.term : Int)) (.int .u64 (s.cfg : Int)) (.string s.data) 24) (h2 : w0.heap[w.heap.size + 1]? = some (.cells (callCs x).toArray 37 (0, 0))) (hb : Below w0.heap.size w0 W) : Boxed w W s x := by
  have k1 := h1.below hb
  have k2 : W.heap[w.heap.size + 1]? = _ := (hb.block _ (lt_at h2)).trans h2
  exact ⟨k1.c0, k1.c1, k1.c2, k1.c3, k1.lt, by rw [cell_at k2]; rfl, by rw [cell_at k2]; rfl, by rw [cell_at k2]; rfl, by rw [cell_at k2]; rfl, by rw [cell_at k2]; rfl, by rw [cell_at k2]; rfl, by rw [cell_at k2]; rfl, by rw [cell_at k2]; rfl, by rw [cell_at k2]; rfl, by rw [cell_at k2]; rfl, lt_at k2⟩
theorem total_one (l : List Ent) (x : Cal) : total l [x] = l.length + 1 + weigh x + dataW l := by unfold total; simp
/-- What was taken of both is small, where neither sum wraps. -/
theorem small_of {l : List Ent} {x : Cal} (h : lightB l [x] = true) (hl : l.length ≤ 3518437208784) (hx : x.l.length ≤ 3518437208784) (hd : x.data.size ≤ 9223372036854775807) (h1 : ∀ e ∈ l, e.data.size ≤ 32768) (h2 : ∀ e ∈ x.l, e.data.size ≤ 32768) : l.length + x.l.length ≤ 800 := by
  have k1 := dataW_le h1
  have k2 := dataW_le h2
  have ht := total_one l x
  unfold weigh at ht
  have h3 := light_of (l := l) (L := [x]) (by omega)
  rw [h] at h3
  have := of_decide_eq_true h3.symm
  omega
/-- The log, and what was in it, in later worlds. -/
structure St (w1 : World) (p : Nat) (v : Value) (g : G) (A : Option Addr) (GL : List Ent) (W : World) : Prop where
  lp : LP w1.heap.size W p v g
  since : Below w1.heap.size w1 W
  rd : RE W W.heap.size A GL.length GL
theorem St.below {w1 : World} {p : Nat} {v : Value} {g : G} {A : Option Addr} {GL : List Ent} {W W' : World} (h : St w1 p v g A GL W) (hb : Below W.heap.size W W') : St w1 p v g A GL W' :=
  ⟨h.lp.below hb, h.since.trans (hb.mono h.since.size), (Kit.Reads.below h.rd hb).more hb.size⟩
/-- What is known of all that came in, in later worlds. -/
structure Came (w : World) (A : Option Addr) (n c : Nat) (l : List Ent) (x : Cal) (W : World) : Prop where
  re : RE W w.heap.size A n l
  cal : CalB W w.heap.size x
set_option maxRecDepth 100000 in
set_option maxHeartbeats 4000000 in
theorem merges_walk (s : Snap) (A : Option Addr) (n c : Nat) (l : List Ent) (x : Cal) (w : World) (hs : SnapB s) (hl : CameE w A n c l) (h40 : c * 40 ≤ 140737488351232) (hx : CalB w w.heap.size x) (hx40 : x.n * 40 ≤ 140737488351232) :
    Calls Try.prog 5 #[snapV s, .slice A n c, callV x] w fun e w' => e = .returned (.bool true) ∧ Below w.heap.size w w' := by
  have hn : l.length = n := RE.len hl.reads
  have hxn : x.l.length = x.n := RE.len hx.list
  have hfit := hl.fits
  have hc63 : n ≤ 3518437208784 := by omega
  have hsi := hs.idx
  have hxi := hx.idx
  have hx63 : x.n ≤ 3518437208784 := by omega
  obtain ⟨h1, h2⟩ := boxes_at w s x
  have HBx : Hid (∀ W, Below ((w.alloc (.cells #[.int .u64 (s.idx : Int), .int .u64 (s.term : Int), .int .u64 (s.cfg : Int), .string s.data] 24)).alloc (callO x)).heap.size ((w.alloc (.cells #[.int .u64 (s.idx : Int), .int .u64 (s.term : Int), .int .u64 (s.cfg : Int), .string s.data] 24)).alloc (callO x)) W → Boxed w W s x) := fun W hb => boxed_of h1 h2 hb
  have HB0 : Hid (Below w.heap.size w ((w.alloc (.cells #[.int .u64 (s.idx : Int), .int .u64 (s.term : Int), .int .u64 (s.cfg : Int), .string s.data] 24)).alloc (callO x))) := ((Below.refl _ _).alloc (Nat.le_refl _) _).alloc (by simp) _
  have HCm : Hid (∀ W, Below w.heap.size w W → Came w A n c l x W) := fun W hb => ⟨Kit.Reads.below hl.reads hb, hx.below hb (Nat.le_refl _)⟩
  have HEn : Hid (∀ e ∈ l, EntB e) := hl.ents
  have HS := Lib.hid hs
  have HN := Lib.hid hn
  have HXN := Lib.hid hxn
  have HC := Lib.hid h40
  have HXd := Lib.hid hx.data
  have HXe := Lib.hid hx.ents
  have HXf := Lib.hid hx.fits
  have HXm := Lib.hid hx.max
  clear h1 h2 hn hxn hfit hl hx hs h40
  unfold snapV callV
  go_enter Try.func5, Try.ntmps5
  go_wp2_with fail
  refine (Begun.begun_any _).mono ?_
  rintro e w1 ⟨rfl, hb1⟩
  have hbx := HBx.out w1 hb1
  have HB1 := Lib.hid (HB0.out.trans (hb1.mono HB0.out.size))
  have HBox : Hid (∀ W, Below w1.heap.size w1 W → Boxed w W s x) := fun W hb => HBx.out W (hb1.trans (hb.mono hb1.size))
  obtain ⟨s0, s1, s2, s3, slt, x0, x1, x2, x3, x4, x5, x6, x7, x8, x9, xlt⟩ := hbx
  have HL : Hid (Calls Try.prog 10 #[.slice A n c, .slice (some ⟨w1.heap.size, 0, none⟩) 1 1] (w1.alloc (callO x)) (TellsB (w1.alloc (callO x)) (lightB l [x]))) := by
    have hk := HCm.out w1 HB1.out
    have hb : Below w.heap.size w1 (w1.alloc (callO x)) := (Below.refl _ _).alloc HB1.out.size _
    have hre := (Kit.Reads.below hk.re hb).more (Nat.le_trans HB1.out.size ((Below.refl w1.heap.size w1).alloc (Nat.le_refl _) (callO x)).size)
    refine light_any A n c l (some ⟨w1.heap.size, 0, none⟩) 1 1 [x] _ hre HEn.out (by omega) ?_ (by omega)
    rw [show (w1.alloc (callO x)).heap.size = w1.heap.size + 1 by simp]
    exact Holds.one (hk.cal.below (Below.refl _ _) HB1.out.size) (Nat.le_refl _) _
  have HA : Hid (Below w1.heap.size w1 (w1.alloc (callO x))) := (Below.refl _ _).alloc (Nat.le_refl _) _
  clear hb1
  go_wp2_with fail
  refine HL.out.mono ?_
  rintro e w2 ⟨rfl, hb2⟩
  have hB2 := HA.out.trans (hb2.mono HA.out.size)
  obtain ⟨y0, y1, y2, y3, ylt, z0, z1, z2, z3, z4, z5, z6, z7, z8, z9, zlt⟩ := HBox.out w2 hB2
  clear s0 s1 s2 s3 slt x0 x1 x2 x3 x4 x5 x6 x7 x8 x9 xlt hb2
  cases hLB : lightB l [x] with
  | false =>
    clear hLB
    go_wp2
    go_ret
    exact ⟨rfl, HB1.out.trans (hB2.mono HB1.out.size)⟩
  | true =>
    have HLB := Lib.hid hLB
    clear hLB
    cases hok : okB s l with
    | false =>
      have HNew := Lib.hid (pnew_no HS.out A n c l w2 (((HCm.out w2 (HB1.out.trans (hB2.mono HB1.out.size))).re).more (by omega)) HEn.out (by omega) hok)
      unfold snapV at HNew
      clear hok
      go_wp2_with fail
      refine HNew.out.mono ?_
      rintro e w3 ⟨rfl, hb3⟩
      have hB3 := hB2.trans (hb3.mono hB2.size)
      go_wp2
      go_ret
      exact ⟨rfl, HB1.out.trans (hB3.mono HB1.out.size)⟩
    | true =>
      have HNew := Lib.hid (pnew_ok HS.out A n c l w2 (((HCm.out w2 (HB1.out.trans (hB2.mono HB1.out.size))).re).more (by omega)) HEn.out (by omega) hok)
      have hf := fine_ok hok HS.out HEn.out
      obtain ⟨g, hg⟩ : ∃ g : G, (⟨s, l⟩ : G) = g := ⟨_, rfl⟩
      have hgl : g.es.length = n := by rw [← hg]; exact HN.out
      have hgs : g.snap = s := by rw [← hg]
      have HGe : Hid (g.es = l) := by rw [← hg]; exact Lib.hid rfl
      have hok2 := ok_chained hok
      rw [hg] at HNew hf
      unfold snapV at HNew
      obtain ⟨J, hJ⟩ : ∃ J, (s.idx + 1) % 18446744073709551616 = J := ⟨_, rfl⟩
      have hJb : J < 18446744073709551616 := by omega
      have hwJ : IntKind.u64.wrap ((s.idx : Int) + 1) = (J : Int) := by rw [← hJ]; exact wrap_succ hsi
      have HJ : Hid (J = (g.snap.idx + 1) % 18446744073709551616) := by rw [hgs, hJ]; exact Lib.hid rfl
      have HCh := Lib.hid hok2
      have HGs := Lib.hid hgs
      have HGl := Lib.hid hgl
      have HF := Lib.hid hf
      clear hok hok2 hg hgl hgs hJ hf
      go_wp2_with fail
      refine HNew.out.mono ?_
      rintro e w3 ⟨p, v, rfl, hp, hb3⟩
      have HP3 := Lib.hid (hp.lower hB2.size)
      have hB3 := hB2.trans (hb3.mono hB2.size)
      obtain ⟨s0, s1, s2, s3, slt, x0, x1, x2, x3, x4, x5, x6, x7, x8, x9, xlt⟩ := HBox.out w3 hB3
      clear y0 y1 y2 y3 ylt z0 z1 z2 z3 z4 z5 z6 z7 z8 z9 zlt hb3 hp
      have HGet : Hid (∀ W v (g : G), LP w1.heap.size W p v g → g.es.length ≤ 3518437208784 → Calls Try.prog 16 #[.pointer (some ⟨p, 0, none⟩), .int .u64 (J : Int), .int .i64 2000] W (Gives W (Rlog.get g J 2000))) := fun W v g h hl => get_any h (i := J) (n := 2000) hJb (by omega) (by omega)
      clear hJb
      go_wp2_with fail
      refine (HGet.out w3 v g HP3.out (by have := HGl.out; omega)).mono ?_
      obtain ⟨GL, hGL⟩ : ∃ a, Rlog.get g J 2000 = a := ⟨_, rfl⟩
      rw [hGL]
      have HGL := Lib.hid hGL
      clear hGL
      rintro e w4 ⟨A4, c4, rfl, hr4, hc4, h634, hb4, ho4⟩
      have HP4 := Lib.hid (HP3.out.below hb4)
      have hB4 := hB3.trans (hb4.mono hB3.size)
      have HO4 : Hid (Off (Foot p v) A4 GL.length) := fun hn ad ha hf => ho4 hn ad ha (HP3.out.foot_lt hf).2
      have HR4 := Lib.hid hr4
      obtain ⟨y0, y1, y2, y3, ylt, z0, z1, z2, z3, z4, z5, z6, z7, z8, z9, zlt⟩ := HBox.out w4 hB4
      clear s0 s1 s2 s3 slt x0 x1 x2 x3 x4 x5 x6 x7 x8 x9 xlt hb4 ho4 hr4
      have HM : Hid (∀ W v (g : G), Below w1.heap.size w1 W → LP w1.heap.size W p v g → Fine g → (chained x.l x.idx x.term = true → (g.es.length + x.n) * 40 ≤ 140737488355328) → Calls Try.prog 17 #[.pointer (some ⟨p, 0, none⟩), .int .u64 (x.idx : Int), .int .u64 (x.term : Int), .slice x.A x.n x.c] W (Merged 70 w1.heap.size W p v (merge g x.idx x.term x.l))) := fun W v g hb h f hroom => by
        have hk := (HCm.out W (HB1.out.trans (hb.mono HB1.out.size))).cal.list.more HB1.out.size
        exact merge_any h f x.A x.n x.c x.idx x.term x.l (hk.more hb.size) (off_low h hk) HXe.out HXf.out HXm.out hxi hroom
      have hsm : chained x.l x.idx x.term = true → n + x.n ≤ 800 := fun hch => by
        have := small_of HLB.out (by have := HN.out; omega) (by have := HXN.out; omega) HXd.out (chained_data HCh.out) (chained_data hch)
        have := HN.out
        have := HXN.out
        omega
      have HSm := Lib.hid hsm
      clear hsm
      have HM1 := Lib.hid (HM.out w4 v g hB4 HP4.out HF.out (fun hch => by have := HSm.out hch; have := HGl.out; omega))
      have HMf := Lib.hid (fine_merge HF.out (i := x.idx) (t := x.term) HXe.out)
      obtain ⟨⟨⟨ml, mb⟩, g1⟩, hm⟩ : ∃ r, merge g x.idx x.term x.l = r := ⟨_, rfl⟩
      rw [hm] at HM1 HMf
      have HMe := Lib.hid hm
      clear hm
      go_wp2_with fail
      refine HM1.out.mono ?_
      rintro e w5 ⟨A5, c5, rfl, hr5, hc5, h635, hL5, ho5⟩
      simp only at hr5 hc5 hL5 ho5 ⊢
      obtain ⟨v5, h5, o5, f5⟩ := hL5
      have hB5 := hB4.trans (left_below HP4.out ⟨v5, h5, o5, f5⟩)
      have HO5 : Hid (Off (Foot p v5) A4 GL.length) := fun hn ad ha hf => by
        obtain ⟨ad', e1, hl', _⟩ := HR4.out.2 hn
        rw [ha] at e1
        cases e1
        rcases hf with hf | hf
        · exact HO4.out hn ad ha (.inl hf)
        · rcases f5 _ hf with h | h
          · exact HO4.out hn ad ha (.inr h)
          · omega
      have HS5 : Hid (St w1 p v5 g1 A4 GL w5) := ⟨h5, hB5, (HO4.out.reads o5 HR4.out (Nat.le_refl _)).more o5.size⟩
      obtain ⟨s0, s1, s2, s3, slt, x0, x1, x2, x3, x4, x5, x6, x7, x8, x9, xlt⟩ := HBox.out w5 hB5
      clear y0 y1 y2 y3 ylt z0 z1 z2 z3 z4 z5 z6 z7 z8 z9 zlt hr5 o5 f5 h5
      cases mb with
      | false =>
        have hno := merge_no (g := g) (i := x.idx) (t := x.term) (l := x.l) (by rw [HMe.out])
        rw [HMe.out] at hno
        simp only [Prod.mk.injEq, and_true] at hno
        obtain ⟨rfl, rfl⟩ := hno
        have HG5 := Lib.hid (HGet.out w5 v5 g1 HS5.out.lp (by have := HGl.out; omega))
        rw [HGL.out] at HG5
        simp only [List.length_nil]
        go_wp2_with fail
        refine HG5.out.mono ?_
        rintro e w6 ⟨A6, c6, rfl, hr6, hc6, h636, hb6, ho6⟩
        have hs6 := HS5.out.below hb6
        have HSame := Lib.hid (same_any (ca := c4) (cc := c6) hs6.rd hr6 (by omega))
        have HS6 := Lib.hid hs6
        clear hs6 hb6 hr6 ho6
        go_wp2_with fail
        refine HSame.out.mono ?_
        rintro e w7 ⟨rfl, hb7⟩
        go_wp2
        go_ret
        exact ⟨rfl, HB1.out.trans ((HS6.out.since.trans (hb7.mono HS6.out.since.size)).mono HB1.out.size)⟩
      | true =>
        have hmt : (merge g x.idx x.term x.l).1.2 = true := by rw [HMe.out]
        have hmo := merge_ok HF.out HXe.out hmt
        have h800 := HSm.out (merge_chained hmt)
        have hgr := merge_grows g x.idx x.term x.l
        rw [HMe.out] at hmo hgr
        simp only at hmo hgr
        have hga : GL = g.es := by rw [← HGL.out]; exact get_all HF.out HJ.out (by have := HGl.out; omega)
        have HOk := Lib.hid hmo
        have HGA := Lib.hid hga
        have HLen : Hid ((g1.es.length + x.n) * 40 ≤ 140737488355328 ∧ g1.es.length ≤ 3518437208784 ∧ GL.length ≤ 800) := by
          have := HGl.out
          have := HXN.out
          exact ⟨by omega, by omega, by rw [hga]; omega⟩
        clear hmt hmo hgr hga
        go_wp2_with fail
        go_loopw [71] (fun i wr => ∃ k : Nat, k ≤ x.n ∧ i = .int .i64 (k : Int) ∧ Hid (St w1 p v5 g1 A4 GL wr)) (fun i _ => x.n - (intOf i).toNat)
        case atStart => exact ⟨0, by omega, rfl, HS5⟩
        case round =>
          obtain ⟨k, hk, rfl, HS⟩ := hrel
          have hBr := HS.out.since
          by_cases hkn : k < x.n
          · obtain ⟨b, o, e, hA, hbl, he, hfr⟩ := RE.at_ (HCm.out wr (HB1.out.trans (hBr.mono HB1.out.size))).cal.list hkn
            have c0 := hfr.c0
            have c1 := hfr.c1
            have c2 := hfr.c2
            have c3 := hfr.c3
            have heb := HXe.out e (List.mem_of_getElem? he)
            have hei := heb.idx
            have hba : Below wr.heap.size wr (wr.alloc (.cells #[.int .u64 (e.term : Int), .int .u64 (e.idx : Int), .int .i64 e.kind, .string e.data] 47)) := (Below.refl _ _).alloc (Nat.le_refl _) _
            have HA7 := Lib.hid (HS.out.below hba)
            have hth := HOk.out.there_ e (List.mem_of_getElem? he)
            rw [HGs.out] at hth
            have hbx := HBox.out wr hBr
            have d0 := hbx.s0
            have dlt := hbx.slt
            by_cases hlt : s.idx < e.idx
            · have HT := Lib.hid (term_yes HA7.out.lp HMf.out hei (hth hlt))
              have b1 : decide ((s.idx : Int) < (e.idx : Int)) = true := decide_eq_true (by omega)
              have b2 : decide (s.idx < e.idx) = true := decide_eq_true hlt
              clear hfr he heb hth hbx hba hlt hBr
              simp only [hA]
              go_wp2_with fail
              refine HT.out.mono ?_
              rintro e' w7 ⟨rfl, rfl⟩
              go_wp2_with fail
              go_roundw
              case rel => exact ⟨k + 1, by omega, by go_num, HA7⟩
              case measure => simp [intOf]; omega
            · obtain ⟨E, V, hEV⟩ := term_two (term g1 e.idx)
              have HEV := Lib.hid hEV
              have HT := Lib.hid (term_any HA7.out.lp HMf.out hei)
              have b1 : decide ((s.idx : Int) < (e.idx : Int)) = false := decide_eq_false (by omega)
              have b2 : decide (s.idx < e.idx) = false := decide_eq_false hlt
              clear hfr he heb hth hbx hba hlt hBr hEV
              simp only [hA]
              go_wp2_with fail
              refine HT.out.mono ?_
              intro e' w7 he7
              obtain ⟨rfl, rfl⟩ := HEV.out _ _ _ he7
              clear he7
              go_wp2_with fail
              go_roundw
              case rel => exact ⟨k + 1, by omega, by go_num, HA7⟩
              case measure => simp [intOf]; omega
          · obtain rfl : k = x.n := by omega
            clear hBr
            go_wp2_with fail
            go_loopw [100] (fun i wi => ∃ k : Nat, k ≤ GL.length ∧ i = .int .i64 (k : Int) ∧ Hid (St w1 p v5 g1 A4 GL wi)) (fun i _ => GL.length - (intOf i).toNat)
            case atStart => exact ⟨0, by omega, rfl, HS⟩
            case round =>
              obtain ⟨k, hk, rfl, HI⟩ := hrel
              have hBi := HI.out.since
              by_cases hkn : k < GL.length
              · obtain ⟨b, o, e, hA, hbl, he, hfr⟩ := RE.at_ HI.out.rd hkn
                have c0 := hfr.c0
                have c1 := hfr.c1
                have c2 := hfr.c2
                have c3 := hfr.c3
                have hmem := List.mem_of_getElem? he
                rw [HGA.out] at hmem
                have hei := (HF.out.ents e hmem).idx
                have hba : Below wr.heap.size wr (wr.alloc (.cells #[.int .u64 (e.term : Int), .int .u64 (e.idx : Int), .int .i64 e.kind, .string e.data] 47)) := (Below.refl _ _).alloc (Nat.le_refl _) _
                have HA7 := Lib.hid (HI.out.below hba)
                have hth := HOk.out.stays e hmem
                have hbx := HBox.out wr hBi
                have d1 := hbx.x1
                have dlt := hbx.xlt
                by_cases hle : e.idx ≤ x.idx
                · have HT := Lib.hid (term_yes HA7.out.lp HMf.out hei (hth hle))
                  have b1 : decide ((e.idx : Int) ≤ (x.idx : Int)) = true := decide_eq_true (by omega)
                  have b2 : decide (e.idx ≤ x.idx) = true := decide_eq_true hle
                  clear hfr he hmem hth hbx hba hle hBi
                  subst hA
                  go_wp2_with fail
                  refine HT.out.mono ?_
                  rintro e' w7 ⟨rfl, rfl⟩
                  go_wp2_with fail
                  go_roundw
                  case rel => exact ⟨k + 1, by omega, by go_num, HA7⟩
                  case measure => simp [intOf]; omega
                · obtain ⟨E, V, hEV⟩ := term_two (term g1 e.idx)
                  have HEV := Lib.hid hEV
                  have HT := Lib.hid (term_any HA7.out.lp HMf.out hei)
                  have b1 : decide ((e.idx : Int) ≤ (x.idx : Int)) = false := decide_eq_false (by omega)
                  have b2 : decide (e.idx ≤ x.idx) = false := decide_eq_false hle
                  clear hfr he hmem hth hbx hba hle hBi hEV
                  subst hA
                  go_wp2_with fail
                  refine HT.out.mono ?_
                  intro e' w7 he7
                  obtain ⟨rfl, rfl⟩ := HEV.out _ _ _ he7
                  clear he7
                  go_wp2_with fail
                  go_roundw
                  case rel => exact ⟨k + 1, by omega, by go_num, HA7⟩
                  case measure => simp [intOf]; omega
              · obtain rfl : k = GL.length := by omega
                have hbx := HBox.out wr hBi
                have d0 := hbx.s0
                have dlt := hbx.slt
                obtain ⟨GN, hGN⟩ : ∃ a, Rlog.get g1 J 2000 = a := ⟨_, rfl⟩
                have HG1 := Lib.hid (HGet.out wr v5 g1 HI.out.lp HLen.out.2.1)
                rw [hGN] at HG1
                have HGN := Lib.hid hGN
                have hgn : GN.length ≤ 3518437208784 := by rw [← hGN]; exact Nat.le_trans (get_len g1 J 2000) HLen.out.2.1
                clear hbx hGN hBi
                go_wp2_with fail
                refine HG1.out.mono ?_
                rintro e' w8 ⟨A8, c8, rfl, hr8, hc8, h638, hb8, ho8⟩
                have hs8 := HI.out.below hb8
                have HO8 : Hid (Off (Foot p v5) A8 GN.length) := fun hn ad ha hf => ho8 hn ad ha (HI.out.lp.foot_lt hf).2
                have HR8 := Lib.hid hr8
                have HM8 := Lib.hid (HM.out w8 v5 g1 hs8.since hs8.lp HMf.out (fun _ => HLen.out.1))
                rw [HOk.out.again] at HM8
                have hbx := HBox.out w8 hs8.since
                have e1 := hbx.x1
                have e2 := hbx.x2
                have e5 := hbx.x5
                have elt := hbx.xlt
                have HS8 := Lib.hid hs8
                clear hb8 hr8 ho8 hs8 hbx d0 dlt
                go_wp2_with fail
                refine HM8.out.mono ?_
                rintro e' w9 ⟨A9, c9, rfl, hr9, hc9, h639, hL9, ho9⟩
                simp only [List.length_nil] at hc9 hL9 ⊢
                obtain ⟨v9, h9, o9, f9⟩ := hL9
                have hB9 := HS8.out.since.trans (left_below HS8.out.lp ⟨v9, h9, o9, f9⟩)
                have HS9 : Hid (St w1 p v9 g1 A8 GN w9) := ⟨h9, hB9, (HO8.out.reads o9 HR8.out (Nat.le_refl _)).more o9.size⟩
                have hbx := HBox.out w9 hB9
                have d0 := hbx.s0
                have dlt := hbx.slt
                have HG9 := Lib.hid (HGet.out w9 v9 g1 h9 HLen.out.2.1)
                rw [HGN.out] at HG9
                clear e1 e2 e5 elt hbx hr9 ho9 h9 o9 f9 hB9
                go_wp2_with fail
                refine HG9.out.mono ?_
                rintro e' w10 ⟨A10, c10, rfl, hr10, hc10, h6310, hb10, ho10⟩
                have hs10 := HS9.out.below hb10
                have HSame := Lib.hid (same_any (ca := c8) (cc := c10) hs10.rd hr10 (by omega))
                have HS10 := Lib.hid hs10
                clear hs10 hb10 hr10 ho10
                go_wp2_with fail
                refine HSame.out.mono ?_
                rintro e' w11 ⟨rfl, hb11⟩
                go_wp2
                go_ret
                exact ⟨rfl, HB1.out.trans ((HS10.out.since.trans (hb11.mono HS10.out.since.size)).mono HB1.out.size)⟩
end Go.Proofs.Ytndehdnffajigaa.LawE
