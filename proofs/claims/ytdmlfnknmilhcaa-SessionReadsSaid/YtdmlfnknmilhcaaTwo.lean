/- Both tables beside each other: one call of both, walked. No statement is proved here. -/
import Derived.Test.YtdmlfnknmilhcaaCalD
import Derived.Test.YtdmlfnknmilhcaaOpn
import Derived.Deep.RegionHeld3
set_option linter.unusedVariables false
set_option linter.unusedSimpArgs false
namespace Go.Proofs.Ytdmlfnknmilhcaa.Two
open Go.RowKit Go.Proofs.Ytdmlfnknmilhcaa.Kit Go.Proofs.Ytdmlfnknmilhcaa.Blocks Go.Proofs.Ytdmlfnknmilhcaa.Ses Go.Proofs.Ytdmlfnknmilhcaa.Rws Go.Proofs.Ytdmlfnknmilhcaa.WalkA Go.Proofs.Ytdmlfnknmilhcaa.Boxs Go.Proofs.Ytdmlfnknmilhcaa.Cal Go.Proofs.Ytdmlfnknmilhcaa.CalD Go.Proofs.Ytdmlfnknmilhcaa.Opn

structure Pr (B : Nat) (w : World) (p : Nat) (v : Value) (q : Nat) (u : Value) (m n : Tb) : Prop where
  pt : PT B w p v m
  dt : DT B w q u n
  dis : ∀ g, Mine p v g → ¬ Mine q u g
section
variable {B p q : Nat} {w w' : World} {v u : Value} {m n m' n' : Tb}
theorem Pr.below (h : Pr B w p v q u m n) (k : Below w.heap.size w w') : Pr B w' p v q u m n := ⟨h.pt.below k, h.dt.below k, h.dis⟩
theorem Pr.keep (h : Pr B w p v q u m n) {r : Nat} (o : Only (fun k => k = r) w w') (h1 : ¬ Mine p v r) (h2 : ¬ Mine q u r) : Pr B w' p v q u m n :=
  ⟨h.pt.keep o (fun g hg e => h1 (e ▸ hg)), h.dt.keep o (fun g hg e => h2 (e ▸ hg)), h.dis⟩
/-- A call on the program's table; a block g of neither stays. -/
theorem Pr.left (h : Pr B w p v q u m n) (k : PLeft B w p v m' w') : ∃ v', Pr B w' p v' q u m' n ∧ Below B w w' ∧ (∀ g, g < w.heap.size → ¬ Mine p v g → w'.heap[g]? = w.heap[g]?) ∧ ∀ g, g < w.heap.size → ¬ Mine p v g → ¬ Mine p v' g := by
  have hb := left_below h.pt k
  obtain ⟨v', ht, o, f⟩ := k
  have hne : ∀ g, g < w.heap.size → ¬ Mine p v g → ¬ Mine p v' g := fun g hg hn e => by
    rcases e with e | e
    · exact hn (.inl e)
    · rcases f g e with h1 | h1
      · exact hn (.inr h1)
      · omega
  exact ⟨v', ⟨ht, h.dt.keep o fun g hg e => h.dis g e hg, fun g hg hq => hne g (h.dt.mine_lt hq).2 (fun e => h.dis g e hq) hg⟩, hb, fun g hg hn => o.block g hg hn, hne⟩
/-- A call on the document's. -/
theorem Pr.right (h : Pr B w p v q u m n) (k : DLeft B w q u n' w') : ∃ u', Pr B w' p v q u' m n' ∧ Below B w w' ∧ (∀ g, g < w.heap.size → ¬ Mine q u g → w'.heap[g]? = w.heap[g]?) ∧ ∀ g, g < w.heap.size → ¬ Mine q u g → ¬ Mine q u' g := by
  have hb := left_below h.dt k
  obtain ⟨u', ht, o, f⟩ := k
  have hne : ∀ g, g < w.heap.size → ¬ Mine q u g → ¬ Mine q u' g := fun g hg hn e => by
    rcases e with e | e
    · exact hn (.inl e)
    · rcases f g e with h1 | h1
      · exact hn (.inr h1)
      · omega
  exact ⟨u', ⟨h.pt.keep o fun g hg e => h.dis g hg e, ht, fun g hg hq => hne g (h.pt.mine_lt hg).2 (fun e => h.dis g hg e) hq⟩, hb, fun g hg hn => o.block g hg hn, hne⟩
end
def stepT (m : Tb) (c : Cl) : Tb := if c.k = 0 then clock m c.id else if c.k = 1 then regT m else if c.k = 2 then begT m c.id else endT m c.id c.s c.y
theorem step_sane {m : Tb} (h : Sane m) {c : Cl} (hc : InC c) : Sane (stepT m c) := by
  unfold stepT
  split
  · exact h.clock hc.id
  · split
    · exact h.reg
    · split
      · exact h.beg c.id
      · exact h.fin c.id hc.s hc.y
theorem five {w : World} {cb : Nat} {kd : Int} {id s : Nat} {ye : Int} {yn yx : Nat} (h : w.heap[cb]? = some (.cells #[.int .i64 kd, .int .u64 (id : Int), .int .u64 (s : Int), .int .i64 ye, .int .u64 (yn : Int), .int .u64 (yx : Int)] 35 (0, 0))) :
    w.cell? ⟨cb, 1, none⟩ = some (.int .u64 (id : Int)) ∧ w.cell? ⟨cb, 2, none⟩ = some (.int .u64 (s : Int)) ∧ w.cell? ⟨cb, 3, none⟩ = some (.int .i64 ye) ∧ w.cell? ⟨cb, 4, none⟩ = some (.int .u64 (yn : Int)) ∧ w.cell? ⟨cb, 5, none⟩ = some (.int .u64 (yx : Int)) :=
  ⟨cell_at h 1, cell_at h 2, cell_at h 3, cell_at h 4, cell_at h 5⟩
def clV (c : Cl) : Value := .agg #[.int .i64 c.k, .int .u64 (c.id : Int), .int .u64 (c.s : Int), .int .i64 c.y.err, .int .u64 (c.y.num : Int), .int .u64 (c.y.ext : Int)]
set_option maxRecDepth 100000 in
set_option maxHeartbeats 8000000 in
theorem both_any {B p q : Nat} {w : World} {v u : Value} {m : Tb} (h : Pr B w p v q u m m) (hS : Sane m) {c : Cl} (hc : InC c) {m' : Tb} (hm : Hid (stepT m c = m')) :
    Calls Try.prog 11 #[.pointer (some ⟨p, 0, none⟩), .pointer (some ⟨q, 0, none⟩), clV c] w fun e w' => e = .returned (.bool true) ∧ (∃ v' u', Pr B w' p v' q u' m' m') ∧ Below B w w' := by
  have hbo : ∀ (W : World) o, Below W.heap.size W (W.alloc o) := fun W o => (Below.refl _ _).alloc (Nat.le_refl _) o
  have hm' := hm.out
  unfold stepT at hm'
  obtain ⟨hkk, hid, hs, hyok⟩ := hc
  obtain ⟨kd, id, s, ⟨ye, yn, yx⟩⟩ := c
  unfold clV
  simp only at hkk hid hs hyok hm' ⊢
  have hb0 := hbo w (.cells #[.int .i64 kd, .int .u64 (id : Int), .int .u64 (s : Int), .int .i64 ye, .int .u64 (yn : Int), .int .u64 (yx : Int)] 35)
  have hnew := heap_alloc_new w (.cells #[.int .i64 kd, .int .u64 (id : Int), .int .u64 (s : Int), .int .i64 ye, .int .u64 (yn : Int), .int .u64 (yx : Int)] 35)
  have h0 := h.below hb0
  obtain ⟨w0, hw0⟩ : ∃ w0, w.alloc (.cells #[.int .i64 kd, .int .u64 (id : Int), .int .u64 (s : Int), .int .i64 ye, .int .u64 (yn : Int), .int .u64 (yx : Int)] 35) = w0 := ⟨_, rfl⟩
  obtain ⟨cb, hcb⟩ : ∃ cb, w.heap.size = cb := ⟨_, rfl⟩
  rw [hw0] at hb0 hnew h0
  have hBw := h.pt.base
  have hB0 : Below B w w0 := hb0.mono hBw
  have hnp : ¬ Mine p v cb := fun e => by have := (h.pt.mine_lt e).2; omega
  have hnq : ¬ Mine q u cb := fun e => by have := (h.dt.mine_lt e).2; omega
  rw [hcb] at hnew
  have hclt := lt_at hnew
  have r0 := cell_at hnew 0
  have r1 := cell_at hnew 1
  have r2 := cell_at hnew 2
  have r3 := cell_at hnew 3
  have r4 := cell_at hnew 4
  have r5 := cell_at hnew 5
  simp only [List.getElem?_toArray, List.getElem?_cons_zero, List.getElem?_cons_succ] at r0 r1 r2 r3 r4 r5
  have HW0 := Lib.hid hw0
  have H0 := Lib.hid h0
  have HB0 := Lib.hid hB0
  have HN0 := Lib.hid hnew
  clear hw0 h0 hB0 hnew hb0 h
  by_cases hk0 : kd = 0
  · rw [if_pos hk0] at hm'
    subst hk0
    have HM := Lib.hid hm'
    have HC := Lib.hid (clock_any H0.out.pt hS hid HM)
    clear hm'
    go_enter Try.func11, Try.ntmps11
    go_wp2_with fail
    rw [HW0.out]
    go_wp2_with fail
    with_reducible refine HC.out.mono ?_
    rintro e w1 ⟨rfl, hL⟩
    obtain ⟨v1, h1, hb1, ho1, _⟩ := H0.out.left hL
    have hn1 := (ho1 cb hclt hnp).trans HN0.out
    have hclt1 := lt_at hn1
    have s1 := cell_at hn1 1
    simp only [List.getElem?_toArray, List.getElem?_cons_zero, List.getElem?_cons_succ] at s1
    have H1 := Lib.hid h1
    have HB1 := Lib.hid (HB0.out.trans hb1)
    have HC2 := Lib.hid (rclock_any h1.dt hS hid HM)
    clear hL h1 hb1 ho1 hn1
    go_wp2_with fail
    with_reducible refine HC2.out.mono ?_
    rintro e w2 ⟨rfl, hL⟩
    obtain ⟨u2, h2, hb2, _, _⟩ := H1.out.right hL
    have H2 := Lib.hid h2
    have HB2 := Lib.hid (HB1.out.trans hb2)
    clear hL h2 hb2
    go_wp2
    go_ret
    exact ⟨rfl, ⟨_, _, H2.out⟩, HB2.out⟩
  rw [if_neg hk0] at hm'
  have hk0I : ¬ kd = 0 := hk0
  by_cases hk1 : kd = 1
  · rw [if_pos hk1] at hm'
    subst hk1
    have HM := Lib.hid hm'
    have HC := Lib.hid (reg_any H0.out.pt hS HM (Lib.hid rfl) (Lib.hid rfl))
    obtain ⟨RI, hRI⟩ : ∃ x, regId m = x := ⟨_, rfl⟩
    obtain ⟨RE, hRE⟩ : ∃ x, regE m = x := ⟨_, rfl⟩
    rw [hRI, hRE] at HC
    have HRI := Lib.hid hRI
    have HRE := Lib.hid hRE
    clear hm' hRI hRE
    go_enter Try.func11, Try.ntmps11
    go_wp2_with fail
    rw [HW0.out]
    go_wp2_with fail
    with_reducible refine HC.out.mono ?_
    rintro e w1 ⟨rfl, hL⟩
    obtain ⟨v1, h1, hb1, ho1, _⟩ := H0.out.left hL
    have H1 := Lib.hid h1
    have HB1 := Lib.hid (HB0.out.trans hb1)
    have HC2 := Lib.hid (rreg_any h1.dt hS HM HRI HRE)
    clear hL h1 hb1 ho1
    go_wp2_with fail
    with_reducible refine HC2.out.mono ?_
    rintro e w2 ⟨rfl, hL⟩
    obtain ⟨u2, h2, hb2, _, _⟩ := H1.out.right hL
    have H2 := Lib.hid h2
    have HB2 := Lib.hid (HB1.out.trans hb2)
    clear hL h2 hb2
    go_wp2
    go_ret
    exact ⟨by simp, ⟨_, _, H2.out⟩, HB2.out⟩
  rw [if_neg hk1] at hm'
  have hk1I : ¬ kd = 1 := hk1
  by_cases hk2 : kd = 2
  · rw [if_pos hk2] at hm'
    subst hk2
    have HM := Lib.hid hm'
    obtain ⟨⟨be, bn, bx⟩, hRY⟩ : ∃ x, begY m id s = x := ⟨_, rfl⟩
    obtain ⟨BF, hRF⟩ : ∃ x, begF m id s = x := ⟨_, rfl⟩
    have HRY := Lib.hid hRY
    have HRF := Lib.hid hRF
    have hcall := beg_any H0.out.pt hS id hs HM HRY HRF
    unfold ryV at hcall
    simp only at hcall
    have HC := Lib.hid hcall
    clear hm' hRY hRF hcall
    go_enter Try.func11, Try.ntmps11
    go_wp2_with fail
    rw [HW0.out]
    go_wp2_with fail
    with_reducible refine HC.out.mono ?_
    rintro e w1 ⟨rfl, hL⟩
    obtain ⟨v1, h1, hb1, ho1, hq1⟩ := H0.out.left hL
    have hn1 := (ho1 cb hclt hnp).trans HN0.out
    have hclt1 := lt_at hn1
    have a1 := cell_at hn1 1
    have a2 := cell_at hn1 2
    simp only [List.getElem?_toArray, List.getElem?_cons_zero, List.getElem?_cons_succ] at a1 a2
    have hb2 := hbo w1 (.cells #[.int .i64 be, .int .u64 (bn : Int), .int .u64 (bx : Int)] 33)
    have hx2 := Box3.new w1 (.int .i64 be) (.int .u64 (bn : Int)) (.int .u64 (bx : Int))
    have h2 := h1.below hb2
    have hn2 := (hb2.block cb (lt_at hn1)).trans hn1
    have hB1 := HB0.out.trans hb1
    have hBs : B ≤ w1.heap.size := h1.pt.base
    have hB2 := hB1.trans (hb2.mono hBs)
    obtain ⟨w2, hw2⟩ : ∃ w2, w1.alloc (.cells #[.int .i64 be, .int .u64 (bn : Int), .int .u64 (bx : Int)] 33) = w2 := ⟨_, rfl⟩
    obtain ⟨rb, hrb⟩ : ∃ rb, w1.heap.size = rb := ⟨_, rfl⟩
    have hcr : cb < rb := by omega
    have hcr2 : cb ≠ rb := by omega
    have hnqr : ¬ Mine q u rb := fun e => by have := (h1.dt.mine_lt e).2; omega
    rw [hw2] at hx2 h2 hn2 hB2
    rw [hrb] at hx2
    have hclt2 := lt_at hn2
    have s1 := cell_at hn2 1
    have s2 := cell_at hn2 2
    simp only [List.getElem?_toArray, List.getElem?_cons_zero, List.getElem?_cons_succ] at s1 s2
    have H2 := Lib.hid h2
    have HB2 := Lib.hid hB2
    have HX2 := Lib.hid hx2
    have HW2 := Lib.hid hw2
    have hcall2 := rbeg_any h2.dt hS id hs HM HRY HRF
    unfold ryV at hcall2
    simp only at hcall2
    have HC2 := Lib.hid hcall2
    clear hL h1 hb1 ho1 hq1 hn1 hb2 hx2 h2 hn2 hB1 hB2 hw2 hcall2
    go_wp2_with fail
    rw [HW2.out]
    go_wp2_with fail
    with_reducible refine HC2.out.mono ?_
    rintro e w3 ⟨rfl, hL⟩
    obtain ⟨u3, h3, hb3, ho3, _⟩ := H2.out.right hL
    have hx3 : Box3 w3 rb (.int .i64 be) (.int .u64 (bn : Int)) (.int .u64 (bx : Int)) := ⟨(ho3 rb HX2.out.lt hnqr).trans HX2.out.blk⟩
    have x0 := hx3.c0
    have x1 := hx3.c1
    have x2 := hx3.c2
    have xl := hx3.lt
    have hb4 := hbo w3 (.cells #[.int .i64 be, .int .u64 (bn : Int), .int .u64 (bx : Int)] 33)
    have HFIN : Hid (Pr B (w3.alloc (.cells #[.int .i64 be, .int .u64 (bn : Int), .int .u64 (bx : Int)] 33)) p v1 q u3 m' m' ∧ Below B w (w3.alloc (.cells #[.int .i64 be, .int .u64 (bn : Int), .int .u64 (bx : Int)] 33))) := ⟨h3.below hb4, (HB2.out.trans hb3).trans (hb4.mono h3.pt.base)⟩
    clear hL h3 hb3 ho3 hx3 hb4
    go_wp2
    go_ret
    exact ⟨by simp, ⟨_, _, HFIN.out.1⟩, HFIN.out.2⟩
  rw [if_neg hk2] at hm'
  have hk2I : ¬ kd = 2 := hk2
  obtain ⟨EF, hEF⟩ : ∃ x, endF m id s = x := ⟨_, rfl⟩
  have HEF := Lib.hid hEF
  have HM := Lib.hid hm'
  have hd := H0.out.below ((Below.refl _ _).drew)
  have hcall := end_any hd.pt id hs ⟨ye, yn, yx⟩ HM HEF
  unfold ryV at hcall
  simp only at hcall
  have HC := Lib.hid hcall
  have HD := Lib.hid hd
  have HND : Hid (w0.drew.heap[cb]? = some (.cells #[.int .i64 kd, .int .u64 (id : Int), .int .u64 (s : Int), .int .i64 ye, .int .u64 (yn : Int), .int .u64 (yx : Int)] 35 (0, 0))) := HN0.out
  have HBD : Hid (Below B w w0.drew) := HB0.out.drew
  clear hm' hEF hcall hd
  go_enter Try.func11, Try.ntmps11
  go_wp2_with fail
  rw [HW0.out]
  go_wp2_with fail
  go_region_held3 (fun w' => w'.cell? ⟨cb, 1, none⟩ = some (.int .u64 (id : Int)) ∧ w'.cell? ⟨cb, 2, none⟩ = some (.int .u64 (s : Int)) ∧ w'.cell? ⟨cb, 3, none⟩ = some (.int .i64 ye) ∧ w'.cell? ⟨cb, 4, none⟩ = some (.int .u64 (yn : Int)) ∧ w'.cell? ⟨cb, 5, none⟩ = some (.int .u64 (yx : Int)))
    (first
      | exact five HND.out
      | exact five HNB.out
      | exact five HNA.out)
    (first
      | (go_at_call 22
         (with_reducible refine HC.out.mono ?_)
         rintro e wA ⟨rfl, hL⟩
         obtain ⟨v1, h1, hb1, ho1, hq1⟩ := HD.out.left hL
         have HNA := Lib.hid ((ho1 cb (lt_at HND.out) hnp).trans HND.out)
         have HA := Lib.hid h1
         have HBA := Lib.hid (HBD.out.trans hb1)
         have hcall2 := rend_any h1.dt hS id hs ⟨ye, yn, yx⟩ HM HEF
         unfold ryV at hcall2
         simp only at hcall2
         have HC2 := Lib.hid hcall2
         clear hL h1 hb1 ho1 hq1 hcall2)
      | (go_at_call 28
         (with_reducible refine HC2.out.mono ?_)
         rintro e wB ⟨rfl, hL⟩
         obtain ⟨u1, h1, hb1, ho1, hq1⟩ := HA.out.right hL
         have HNB := Lib.hid ((ho1 cb (lt_at HNA.out) hnq).trans HNA.out)
         have HB := Lib.hid h1
         have HBB := Lib.hid (HBA.out.trans hb1)
         clear hL h1 hb1 ho1 hq1))
  go_wp2
  go_ret
  exact ⟨by simp, ⟨_, _, HB.out⟩, HBB.out⟩
end Go.Proofs.Ytdmlfnknmilhcaa.Two
